/- The contract of snap.read. -/
import Derived.Test.YtohhlhnjopbmhaaGreatDoorMerged23
import Derived.Test.YtohhlhnjopbmhaaGreatDoorMerged21
namespace Go.Proofs.YtohhlhnjopbmhaaGreatDoor.K
open Go.Proofs.YtohhlhnjopbmhaaGreatDoor.R (agree_frame mem_slots slot_same wp_region_kept)
open Go.RowKit Go.Proofs.YtohhlhnjopbmhaaGreatDoor.I

theorem ownP_of {rk : IntKind} {T : TypeId} {base : Nat} {v : Value} {l : List (Int × Int)} {w w' : World} (h : OwnP rk T base v l w) {row : Option Nat} (hg : w.grownBy w' row) (hne : ∀ q, row = some q → q < base ∨ ∃ cs T', w.heap[q]? = some (.cells cs T' (0, 0)) ∧ T' ≠ T) : OwnP rk T base v l w' := h.kept hg (fun q hq e => by
  rcases hne q e with h1 | ⟨cs, T', h1, h2⟩
  · have := (h.ownBlock q hq).1; omega
  · obtain ⟨cs2, h3, -⟩ := U.own_type h hq
    rw [h3] at h1
    injection h1 with h1
    injection h1 with _ h1
    exact h2 h1.symm)
/-- while the rows are read -/
structure RdNI (p rb sb : Nat) (k W h x y : Int) (t : ByteArray) (n c : Int) (ya : Option Addr) (yn yc : Nat) (B : List (Int × Int)) (w : World) (vb v : Value) (rs : List Ro) (st : Sta) (u : World) : Prop where
  i : InSt p st.1 st.2 u
  g : GatR (sb + 1) v rs u
  o : OwnP .i32 86 (sb + 1) (.slice ya yn yc) B u
  bk : u.heap[sb]? = some (.cells #[.int .i64 k, .int .i64 W, .int .i64 h, .int .i64 x, .int .i64 y, .string t, vb, .int .i64 n, .int .i64 c, .slice ya yn yc] 25 (0, 0))
  zk : u.heap[rb]? = some (.cells #[.int .i64 0, .int .i64 0, .int .i64 0, .int .i64 0, .int .i64 0, .string ⟨#[]⟩, .slice none 0 0, .int .i64 0, .int .i64 0, .slice none 0 0] 25 (0, 0))
  gr : w.grownBy u (some p)
  sz : sb + 1 ≤ u.heap.size
  ps : p < rb ∧ rb < sb ∧ w.heap.size = rb
section
variable {p rb sb : Nat} {k W h x y : Int} {t : ByteArray} {n c : Int} {ya : Option Addr} {yn yc : Nat} {B : List (Int × Int)} {w : World} {vb v v' : Value} {rs rs' : List Ro} {st st' : Sta} {u u' : World}
theorem RdNI.took (hh : RdNI p rb sb k W h x y t n c ya yn yc B w vb v rs st u) (hi : InSt p st'.1 st'.2 u') (hg : u.grownBy u' (some p)) : RdNI p rb sb k W h x y t n c ya yn yc B w vb v rs st' u' :=
  have hp := hh.ps
  ⟨hi, hh.g.grown hg (by omega), ownP_of hh.o hg (fun q e => .inl (by have := Option.some.inj e; omega)), (hg.block sb (Array.getElem?_eq_some_iff.1 hh.bk).1 (fun e => by have := Option.some.inj e; omega)).trans hh.bk, (hg.block rb (Array.getElem?_eq_some_iff.1 hh.zk).1 (fun e => by have := Option.some.inj e; omega)).trans hh.zk, grown_trans hh.gr hg, Nat.le_trans hh.sz hg.size, hp⟩
theorem RdNI.below (hh : RdNI p rb sb k W h x y t n c ya yn yc B w vb v rs st u) (hb : Below u.heap.size u u') : RdNI p rb sb k W h x y t n c ya yn yc B w vb v rs st u' :=
  hh.took (inst_below hh.i hb) ⟨hb.os, hb.tape, hb.output, hb.size, fun k hk _ => hb.block k hk⟩
theorem RdNI.more (hh : RdNI p rb sb k W h x y t n c ya yn yc B w vb v rs st u) (hg : GatR (sb + 1) v' rs' u') (hgr : u.grownBy u' v.ownBlock) : RdNI p rb sb k W h x y t n c ya yn yc B w vb v' rs' st u' := by
  have hp := hh.ps
  obtain ⟨us, h1, -⟩ := hh.g.ex
  have hb : Below (sb + 1) u u' := (Below.refl _ _).grown hgr hh.sz (fun q hq => (h1.ownBlock q hq).1)
  obtain ⟨s, i1, i2, i3⟩ := hh.i
  refine ⟨⟨s, (hb.block p (by omega)).trans i1, i2, i3⟩, hg, ownP_of hh.o hgr (fun q e => .inr ?_), (hb.block sb (by omega)).trans hh.bk, (hb.block rb (by omega)).trans hh.zk, ⟨hb.os.trans hh.gr.os, hb.tape.trans hh.gr.tape, hb.output.trans hh.gr.output, Nat.le_trans hh.gr.size hb.size, fun k hk hkp => (hb.block k (by omega)).trans (hh.gr.block k hk hkp)⟩, Nat.le_trans hh.sz hb.size, hp⟩
  obtain ⟨cs, h3, -⟩ := U.own_type h1 e
  exact ⟨cs, _, h3, by decide⟩
theorem RdNI.set (hh : RdNI p rb sb k W h x y t n c ya yn yc B w vb v rs st u) (za : Option Addr) (zn zc : Nat) (hv : v = .slice za zn zc) : RdNI p rb sb k W h x y t n c ya yn yc B w (.slice za zn zc) (.slice za zn zc) rs st (u.setCell ⟨sb, 6, none⟩ (.slice za zn zc)) := by
  have hp := hh.ps
  subst hv
  refine ⟨inst_setOther hh.i (by omega) _ _, hh.g.setOther (by omega) _ _, ownP_of hh.o (grown_set u sb 6 _) (fun q e => .inl (by have := Option.some.inj e; omega)), by simp [World.setCell, Array.getElem?_modify, hh.bk], (Below.heap_setCell _ _ _ rb (by show rb ≠ sb; omega)).trans hh.zk, grown_setNew hh.gr (by omega) _ _, by have := (KeepsWalks.setCell u ⟨sb, 6, none⟩ (.slice za zn zc)).size; have := hh.sz; omega, hp⟩
end
def Sr11 (p rb sb : Nat) (k W h x y : Int) (t : ByteArray) (n c : Int) (ya : Option Addr) (yn yc : Nat) (B : List (Int × Int)) (w : World) (v0 : Value) (rs : List Ro) (sj : Sta) : Nat → (Nat → Value) → World → Prop
  | 0, _, u => RdNI p rb sb k W h x y t n c ya yn yc B w v0 v0 rs sj u
  | 1, f, u => RdNI p rb sb k W h x y t n c ya yn yc B w v0 v0 rs (readR sj W.toNat).1 u ∧ ∃ a n c, f 40 = .agg #[.slice a n c, .bool (readR sj W.toNat).2.wrapped] ∧ RowV .i32 (.agg #[.slice a n c, .bool (readR sj W.toNat).2.wrapped]) (readR sj W.toNat).2 u ∧ ∀ b o, a = some ⟨b, o, none⟩ → (∀ q, v0.ownBlock = some q → b ≠ q) ∧ sb + 1 ≤ b ∧ b < u.heap.size
  | 2, f, u => RdNI p rb sb k W h x y t n c ya yn yc B w v0 v0 rs (readR sj W.toNat).1 u ∧ ∃ q, f 41 = .slice (some ⟨q, 0, none⟩) 1 1 ∧ ∃ a n c b', u.heap[q]? = some (.cells #[.slice a n c, .bool b'] 54 (0, 0)) ∧ RowV .i32 (.agg #[.slice a n c, .bool b']) (readR sj W.toNat).2 u ∧ ∀ b o, a = some ⟨b, o, none⟩ → (∀ q, v0.ownBlock = some q → b ≠ q) ∧ sb + 1 ≤ b ∧ b < u.heap.size
  | 3, f, u => ∃ v, f 42 = v ∧ RdNI p rb sb k W h x y t n c ya yn yc B w v0 v (rs ++ [(readR sj W.toNat).2]) (readR sj W.toNat).1 u
  | _, _, u => ∃ za zn zc, RdNI p rb sb k W h x y t n c ya yn yc B w (.slice za zn zc) (.slice za zn zc) (rs ++ [(readR sj W.toNat).2]) (readR sj W.toNat).1 u
section
variable {p rb sb : Nat} {k W h x y : Int} {t : ByteArray} {n c : Int} {ya : Option Addr} {yn yc : Nat} {B : List (Int × Int)} {w : World} {v0 : Value} {rs : List Ro} {sj : Sta} {u : World} {i : Nat} {f f2 : Nat → Value}
theorem RdNI.cs {vb v : Value} {st : Sta} (hh : RdNI p rb sb k W h x y t n c ya yn yc B w vb v rs st u) : u.cell? ⟨sb, 6, none⟩ = some vb ∧ u.cell? ⟨sb, 1, none⟩ = some (.int .i64 W) := ⟨by rw [cell_block hh.bk]; rfl, by rw [cell_block hh.bk]; rfl⟩
theorem Sr11.base (hk : i ≤ 3) (hh : Sr11 p rb sb k W h x y t n c ya yn yc B w v0 rs sj i f u) : u.cell? ⟨sb, 6, none⟩ = some v0 ∧ u.cell? ⟨sb, 1, none⟩ = some (.int .i64 W) := by
  match i, hk, hh with
  | 0, _, hh => exact RdNI.cs hh
  | 1, _, hh => exact RdNI.cs hh.1
  | 2, _, hh => exact RdNI.cs hh.1
  | 3, _, ⟨_, _, hh⟩ => exact RdNI.cs hh
theorem Sr11.cong (e1 : i = 1 → f 40 = f2 40) (e2 : i = 2 → f 41 = f2 41) (e3 : i = 3 → f 42 = f2 42) (hh : Sr11 p rb sb k W h x y t n c ya yn yc B w v0 rs sj i f u) : Sr11 p rb sb k W h x y t n c ya yn yc B w v0 rs sj i f2 u := by
  match i, hh, e1, e2, e3 with
  | 0, hh, _, _, _ => exact hh
  | 1, ⟨hh, a, n, c, e, h2⟩, e1, _, _ => exact ⟨hh, a, n, c, by rw [← e1 rfl]; exact e, h2⟩
  | 2, ⟨hh, q, e, h2⟩, _, e2, _ => exact ⟨hh, q, by rw [← e2 rfl]; exact e, h2⟩
  | 3, ⟨v, e, hh⟩, _, _, e3 => exact ⟨v, by rw [← e3 rfl]; exact e, hh⟩
  | _ + 4, hh, _, _, _ => exact hh
end
def RdOk11 (p sb : Nat) (W : Int) (xa : Option Addr) (xn xc : Nat) : Nat → Value → World → Prop
  | 0, u, _ => u = .pointer (some ⟨sb, 6, none⟩)
  | 1, u, _ => u = .slice xa xn xc
  | 2, u, _ => u = .pointer (some ⟨p, 0, none⟩)
  | 3, u, _ => u = .pointer (some ⟨sb, 1, none⟩)
  | 4, u, _ => u = .int .i64 W
  | 5, _, _ => True
  | 6, _, _ => True
  | 7, _, _ => True
  | 8, u, _ => u = .pointer (some ⟨sb, 6, none⟩)
  | 9, _, _ => True
  | _, _, _ => True
/-- what read leaves -/
def RdNPost (p : Nat) (q : Sta × Sn) (w : World) (e : Ending) (w' : World) : Prop := ∃ xa xn xc ya yn yc, e = .returned (.agg (snA q.2 xa xn xc ya yn yc)) ∧ GatR w.heap.size (.slice xa xn xc) q.2.R w' ∧ OwnP .i32 86 w.heap.size (.slice ya yn yc) q.2.B w' ∧ InSt p q.1.1 q.1.2 w' ∧ w.grownBy w' (some p)
set_option maxRecDepth 100000 in
set_option maxHeartbeats 16000000 in
theorem nread_any (p : Nat) (st : Sta) (w : World) (h : InSt p st.1 st.2 w) : Calls Tryz.prog 50 #[.pointer (some ⟨p, 0, none⟩)] w (RdNPost p (readN st) w) := by
  obtain ⟨rb, hrb⟩ : ∃ rb, w.heap.size = rb := ⟨_, rfl⟩
  obtain ⟨P, hP⟩ : ∃ P, RdNPost p (readN st) w = P := ⟨_, rfl⟩
  rw [hP]
  have HP := Lib.hid hP
  have hpl : p < rb := by obtain ⟨s, hb, -⟩ := h; rw [← hrb]; exact hb.lt
  obtain ⟨w1, hw1⟩ : ∃ w1, w.alloc (.cells #[.int .i64 0, .int .i64 0, .int .i64 0, .int .i64 0, .int .i64 0, .string ⟨#[]⟩, .slice none 0 0, .int .i64 0, .int .i64 0, .slice none 0 0] 25) = w1 := ⟨_, rfl⟩
  obtain ⟨w2, hw2⟩ : ∃ w2, w1.alloc (.cells #[.int .i64 0, .int .i64 0, .int .i64 0, .int .i64 0, .int .i64 0, .string ⟨#[]⟩, .slice none 0 0, .int .i64 0, .int .i64 0, .slice none 0 0] 25) = w2 := ⟨_, rfl⟩
  have hs1 : w1.heap.size = rb + 1 := by rw [← hw1, World.size_alloc, hrb]
  obtain ⟨sb, hsb⟩ : ∃ sb, rb + 1 = sb := ⟨_, rfl⟩
  have hZ1 : w1.heap[rb]? = some (.cells #[.int .i64 0, .int .i64 0, .int .i64 0, .int .i64 0, .int .i64 0, .string ⟨#[]⟩, .slice none 0 0, .int .i64 0, .int .i64 0, .slice none 0 0] 25 (0, 0)) := by rw [← hw1, ← hrb]; exact heap_alloc_new w _
  have hz2 : w2.heap[rb]? = some (.cells #[.int .i64 0, .int .i64 0, .int .i64 0, .int .i64 0, .int .i64 0, .string ⟨#[]⟩, .slice none 0 0, .int .i64 0, .int .i64 0, .slice none 0 0] 25 (0, 0)) := by rw [← hw2, Below.heap_alloc _ _ _ (by omega)]; exact hZ1
  have hs2 : w2.heap[sb]? = some (.cells #[.int .i64 0, .int .i64 0, .int .i64 0, .int .i64 0, .int .i64 0, .string ⟨#[]⟩, .slice none 0 0, .int .i64 0, .int .i64 0, .slice none 0 0] 25 (0, 0)) := by rw [← hw2, ← hsb, ← hs1]; exact heap_alloc_new w1 _
  have hi2 : InSt p st.1 st.2 w2 := by rw [← hw2, ← hw1]; exact (h.alloc _).alloc _
  have hg2 : w.grownBy w2 (some p) := by rw [← hw2, ← hw1]; exact grown_trans (World.grownBy_alloc w _ _) (World.grownBy_alloc _ _ _)
  have HNs : Hid (sb ≠ p) := Lib.hid (by omega)
  have HNr : Hid (rb ≠ p) := Lib.hid (by omega)
  have HNp : Hid (p ≠ sb) := Lib.hid (by omega)
  have HSr : Hid (rb + 1 = sb) := Lib.hid hsb
  have HLs : Hid (w.heap.size ≤ sb) := Lib.hid (by omega)
  have HPl : Hid (p < rb) := Lib.hid hpl
  have HRb := Lib.hid hrb
  have HW1 := Lib.hid hw1
  have HW2 := Lib.hid hw2
  have HS1 := Lib.hid hs1
  clear hP hrb h hpl hw1 hw2 hs1 hsb hZ1
  go_enter Tryz.func50, Tryz.ntmps50
  go_upto_region 2 with fail
  rw [HW1.out, HW2.out, HRb.out, HSr.out]
  have hCk := innum_any p st.1 st.2 w2 hi2
  obtain ⟨⟨s_k, v_k⟩, e_k⟩ : ∃ q, pK st = q := ⟨_, rfl⟩
  have d_k : numS st.1 st.2 = (s_k, v_k) := by rw [← e_k, pK_def]
  rw [d_k] at hCk
  have HCk := Lib.hid hCk
  have E_k := Lib.hid e_k
  have cl0 : w2.cell? ⟨sb, 0, none⟩ = some (.int .i64 0) := by rw [cell_block hs2]; rfl
  have HI2 := Lib.hid (⟨hs2, hz2, hg2⟩ : w2.heap[sb]? = some (.cells #[.int .i64 0, .int .i64 0, .int .i64 0, .int .i64 0, .int .i64 0, .string ⟨#[]⟩, .slice none 0 0, .int .i64 0, .int .i64 0, .slice none 0 0] 25 (0, 0)) ∧ w2.heap[rb]? = some (.cells #[.int .i64 0, .int .i64 0, .int .i64 0, .int .i64 0, .int .i64 0, .string ⟨#[]⟩, .slice none 0 0, .int .i64 0, .int .i64 0, .slice none 0 0] 25 (0, 0)) ∧ w.grownBy w2 (some p))
  clear hs2 hz2 hg2 hi2 hCk d_k  cl0
  go_wp2_with fail
  refine HCk.out.mono ?_
  rintro e w3 ⟨rfl, hi3, hgg⟩
  have hs3 := (hgg.block sb (Array.getElem?_eq_some_iff.1 HI2.out.1).1 (fun e => HNs.out (Option.some.inj e))).trans HI2.out.1
  have hz3 := (hgg.block rb (Array.getElem?_eq_some_iff.1 HI2.out.2.1).1 (fun e => HNr.out (Option.some.inj e))).trans HI2.out.2.1
  have hg3 := grown_trans HI2.out.2.2 hgg
  clear hgg
  have cs0 : w3.cell? ⟨sb, 0, none⟩ = some (.int .i64 0) := by rw [cell_block hs3]; rfl
  have fs0 := frozen_block hs3 0
  obtain ⟨w4, hw4⟩ : ∃ w4, (w3.setCell ⟨sb, 0, none⟩ (.int .i64 (v_k : Int))) = w4 := ⟨_, rfl⟩
  have hs4 : w4.heap[sb]? = some (.cells #[.int .i64 (v_k : Int), .int .i64 0, .int .i64 0, .int .i64 0, .int .i64 0, .string ⟨#[]⟩, .slice none 0 0, .int .i64 0, .int .i64 0, .slice none 0 0] 25 (0, 0)) := by rw [← hw4]; simp [World.setCell, Array.getElem?_modify, hs3]
  have hz4 : w4.heap[rb]? = some (.cells #[.int .i64 0, .int .i64 0, .int .i64 0, .int .i64 0, .int .i64 0, .string ⟨#[]⟩, .slice none 0 0, .int .i64 0, .int .i64 0, .slice none 0 0] 25 (0, 0)) := by rw [← hw4]; rw [Below.heap_setCell _ _ _ rb (by show rb ≠ sb; have := HSr.out; omega)]; exact hz3
  have hg4 : w.grownBy w4 (some p) := by rw [← hw4]; exact (grown_setNew hg3 HLs.out 0 _)
  have hi4 : InSt p s_k.1 s_k.2 w4 := by rw [← hw4]; exact (inst_setOther hi3 HNp.out 0 _)
  have HWs := Lib.hid hw4
  clear hs3 hz3 hg3 hi3 hw4
  go_upto_region 3 with fail
  rw [HWs.out]
  clear HWs cs0 fs0
  have hCw := natmost_any p s_k 1000 (by decide) w4 hi4
  obtain ⟨⟨s_w, v_w⟩, e_w⟩ : ∃ q, pW st = q := ⟨_, rfl⟩
  have d_w : atS s_k 1000 = (s_w, v_w) := by rw [← e_w, pW_def, e_k]
  rw [d_w] at hCw
  have HCw := Lib.hid hCw
  have E_w := Lib.hid e_w
  have cl1 : w4.cell? ⟨sb, 1, none⟩ = some (.int .i64 0) := by rw [cell_block hs4]; rfl
  have HI4 := Lib.hid (⟨hs4, hz4, hg4⟩ : w4.heap[sb]? = some (.cells #[.int .i64 (v_k : Int), .int .i64 0, .int .i64 0, .int .i64 0, .int .i64 0, .string ⟨#[]⟩, .slice none 0 0, .int .i64 0, .int .i64 0, .slice none 0 0] 25 (0, 0)) ∧ w4.heap[rb]? = some (.cells #[.int .i64 0, .int .i64 0, .int .i64 0, .int .i64 0, .int .i64 0, .string ⟨#[]⟩, .slice none 0 0, .int .i64 0, .int .i64 0, .slice none 0 0] 25 (0, 0)) ∧ w.grownBy w4 (some p))
  clear hs4 hz4 hg4 hi4 hCw d_w e_k cl1
  go_wp2_with fail
  refine HCw.out.mono ?_
  rintro e w5 ⟨rfl, hi5, hgg⟩
  have hs5 := (hgg.block sb (Array.getElem?_eq_some_iff.1 HI4.out.1).1 (fun e => HNs.out (Option.some.inj e))).trans HI4.out.1
  have hz5 := (hgg.block rb (Array.getElem?_eq_some_iff.1 HI4.out.2.1).1 (fun e => HNr.out (Option.some.inj e))).trans HI4.out.2.1
  have hg5 := grown_trans HI4.out.2.2 hgg
  clear hgg
  have cs1 : w5.cell? ⟨sb, 1, none⟩ = some (.int .i64 0) := by rw [cell_block hs5]; rfl
  have fs1 := frozen_block hs5 1
  obtain ⟨w6, hw6⟩ : ∃ w6, (w5.setCell ⟨sb, 1, none⟩ (.int .i64 (v_w : Int))) = w6 := ⟨_, rfl⟩
  have hs6 : w6.heap[sb]? = some (.cells #[.int .i64 (v_k : Int), .int .i64 (v_w : Int), .int .i64 0, .int .i64 0, .int .i64 0, .string ⟨#[]⟩, .slice none 0 0, .int .i64 0, .int .i64 0, .slice none 0 0] 25 (0, 0)) := by rw [← hw6]; simp [World.setCell, Array.getElem?_modify, hs5]
  have hz6 : w6.heap[rb]? = some (.cells #[.int .i64 0, .int .i64 0, .int .i64 0, .int .i64 0, .int .i64 0, .string ⟨#[]⟩, .slice none 0 0, .int .i64 0, .int .i64 0, .slice none 0 0] 25 (0, 0)) := by rw [← hw6]; rw [Below.heap_setCell _ _ _ rb (by show rb ≠ sb; have := HSr.out; omega)]; exact hz5
  have hg6 : w.grownBy w6 (some p) := by rw [← hw6]; exact (grown_setNew hg5 HLs.out 1 _)
  have hi6 : InSt p s_w.1 s_w.2 w6 := by rw [← hw6]; exact (inst_setOther hi5 HNp.out 1 _)
  have HWs := Lib.hid hw6
  clear hs5 hz5 hg5 hi5 hw6
  go_upto_region 4 with fail
  rw [HWs.out]
  clear HWs cs1 fs1
  have hCh := natmost_any p s_w 1000 (by decide) w6 hi6
  obtain ⟨⟨s_h, v_h⟩, e_h⟩ : ∃ q, pH st = q := ⟨_, rfl⟩
  have d_h : atS s_w 1000 = (s_h, v_h) := by rw [← e_h, pH_def, e_w]
  rw [d_h] at hCh
  have HCh := Lib.hid hCh
  have E_h := Lib.hid e_h
  have cl2 : w6.cell? ⟨sb, 2, none⟩ = some (.int .i64 0) := by rw [cell_block hs6]; rfl
  have HI6 := Lib.hid (⟨hs6, hz6, hg6⟩ : w6.heap[sb]? = some (.cells #[.int .i64 (v_k : Int), .int .i64 (v_w : Int), .int .i64 0, .int .i64 0, .int .i64 0, .string ⟨#[]⟩, .slice none 0 0, .int .i64 0, .int .i64 0, .slice none 0 0] 25 (0, 0)) ∧ w6.heap[rb]? = some (.cells #[.int .i64 0, .int .i64 0, .int .i64 0, .int .i64 0, .int .i64 0, .string ⟨#[]⟩, .slice none 0 0, .int .i64 0, .int .i64 0, .slice none 0 0] 25 (0, 0)) ∧ w.grownBy w6 (some p))
  clear hs6 hz6 hg6 hi6 hCh d_h e_w cl2
  go_wp2_with fail
  refine HCh.out.mono ?_
  rintro e w7 ⟨rfl, hi7, hgg⟩
  have hs7 := (hgg.block sb (Array.getElem?_eq_some_iff.1 HI6.out.1).1 (fun e => HNs.out (Option.some.inj e))).trans HI6.out.1
  have hz7 := (hgg.block rb (Array.getElem?_eq_some_iff.1 HI6.out.2.1).1 (fun e => HNr.out (Option.some.inj e))).trans HI6.out.2.1
  have hg7 := grown_trans HI6.out.2.2 hgg
  clear hgg
  have cs2 : w7.cell? ⟨sb, 2, none⟩ = some (.int .i64 0) := by rw [cell_block hs7]; rfl
  have fs2 := frozen_block hs7 2
  obtain ⟨w8, hw8⟩ : ∃ w8, (w7.setCell ⟨sb, 2, none⟩ (.int .i64 (v_h : Int))) = w8 := ⟨_, rfl⟩
  have hs8 : w8.heap[sb]? = some (.cells #[.int .i64 (v_k : Int), .int .i64 (v_w : Int), .int .i64 (v_h : Int), .int .i64 0, .int .i64 0, .string ⟨#[]⟩, .slice none 0 0, .int .i64 0, .int .i64 0, .slice none 0 0] 25 (0, 0)) := by rw [← hw8]; simp [World.setCell, Array.getElem?_modify, hs7]
  have hz8 : w8.heap[rb]? = some (.cells #[.int .i64 0, .int .i64 0, .int .i64 0, .int .i64 0, .int .i64 0, .string ⟨#[]⟩, .slice none 0 0, .int .i64 0, .int .i64 0, .slice none 0 0] 25 (0, 0)) := by rw [← hw8]; rw [Below.heap_setCell _ _ _ rb (by show rb ≠ sb; have := HSr.out; omega)]; exact hz7
  have hg8 : w.grownBy w8 (some p) := by rw [← hw8]; exact (grown_setNew hg7 HLs.out 2 _)
  have hi8 : InSt p s_h.1 s_h.2 w8 := by rw [← hw8]; exact (inst_setOther hi7 HNp.out 2 _)
  have HWs := Lib.hid hw8
  clear hs7 hz7 hg7 hi7 hw8
  go_upto_region 5 with fail
  rw [HWs.out]
  clear HWs cs2 fs2
  have hCx := innum_any p s_h.1 s_h.2 w8 hi8
  obtain ⟨⟨s_x, v_x⟩, e_x⟩ : ∃ q, pX st = q := ⟨_, rfl⟩
  have d_x : numS s_h.1 s_h.2 = (s_x, v_x) := by rw [← e_x, pX_def, e_h]
  rw [d_x] at hCx
  have HCx := Lib.hid hCx
  have E_x := Lib.hid e_x
  have cl3 : w8.cell? ⟨sb, 3, none⟩ = some (.int .i64 0) := by rw [cell_block hs8]; rfl
  have HI8 := Lib.hid (⟨hs8, hz8, hg8⟩ : w8.heap[sb]? = some (.cells #[.int .i64 (v_k : Int), .int .i64 (v_w : Int), .int .i64 (v_h : Int), .int .i64 0, .int .i64 0, .string ⟨#[]⟩, .slice none 0 0, .int .i64 0, .int .i64 0, .slice none 0 0] 25 (0, 0)) ∧ w8.heap[rb]? = some (.cells #[.int .i64 0, .int .i64 0, .int .i64 0, .int .i64 0, .int .i64 0, .string ⟨#[]⟩, .slice none 0 0, .int .i64 0, .int .i64 0, .slice none 0 0] 25 (0, 0)) ∧ w.grownBy w8 (some p))
  clear hs8 hz8 hg8 hi8 hCx d_x e_h cl3
  go_wp2_with fail
  refine HCx.out.mono ?_
  rintro e w9 ⟨rfl, hi9, hgg⟩
  have hs9 := (hgg.block sb (Array.getElem?_eq_some_iff.1 HI8.out.1).1 (fun e => HNs.out (Option.some.inj e))).trans HI8.out.1
  have hz9 := (hgg.block rb (Array.getElem?_eq_some_iff.1 HI8.out.2.1).1 (fun e => HNr.out (Option.some.inj e))).trans HI8.out.2.1
  have hg9 := grown_trans HI8.out.2.2 hgg
  clear hgg
  have hCy := innum_any p s_x.1 s_x.2 w9 hi9
  obtain ⟨⟨s_y, v_y⟩, e_y⟩ : ∃ q, pY st = q := ⟨_, rfl⟩
  have d_y : numS s_x.1 s_x.2 = (s_y, v_y) := by rw [← e_y, pY_def, e_x]
  rw [d_y] at hCy
  have HCy := Lib.hid hCy
  have E_y := Lib.hid e_y
  have HI9 := Lib.hid (⟨hs9, hz9, hg9⟩ : w9.heap[sb]? = some (.cells #[.int .i64 (v_k : Int), .int .i64 (v_w : Int), .int .i64 (v_h : Int), .int .i64 0, .int .i64 0, .string ⟨#[]⟩, .slice none 0 0, .int .i64 0, .int .i64 0, .slice none 0 0] 25 (0, 0)) ∧ w9.heap[rb]? = some (.cells #[.int .i64 0, .int .i64 0, .int .i64 0, .int .i64 0, .int .i64 0, .string ⟨#[]⟩, .slice none 0 0, .int .i64 0, .int .i64 0, .slice none 0 0] 25 (0, 0)) ∧ w.grownBy w9 (some p))
  clear hs9 hz9 hg9 hi9 hCy d_y e_x
  go_wp2_with fail
  refine HCy.out.mono ?_
  rintro e w10 ⟨rfl, hi10, hgg⟩
  have hs10 := (hgg.block sb (Array.getElem?_eq_some_iff.1 HI9.out.1).1 (fun e => HNs.out (Option.some.inj e))).trans HI9.out.1
  have hz10 := (hgg.block rb (Array.getElem?_eq_some_iff.1 HI9.out.2.1).1 (fun e => HNr.out (Option.some.inj e))).trans HI9.out.2.1
  have hg10 := grown_trans HI9.out.2.2 hgg
  clear hgg
  have cs3 : w10.cell? ⟨sb, 3, none⟩ = some (.int .i64 0) := by rw [cell_block hs10]; rfl
  have fs3 := frozen_block hs10 3
  have cs4 : w10.cell? ⟨sb, 4, none⟩ = some (.int .i64 0) := by rw [cell_block hs10]; rfl
  have fs4 := frozen_block hs10 4
  obtain ⟨w11, hw11⟩ : ∃ w11, ((w10.setCell ⟨sb, 3, none⟩ (.int .i64 (v_x : Int))).setCell ⟨sb, 4, none⟩ (.int .i64 (v_y : Int))) = w11 := ⟨_, rfl⟩
  have hs11 : w11.heap[sb]? = some (.cells #[.int .i64 (v_k : Int), .int .i64 (v_w : Int), .int .i64 (v_h : Int), .int .i64 (v_x : Int), .int .i64 (v_y : Int), .string ⟨#[]⟩, .slice none 0 0, .int .i64 0, .int .i64 0, .slice none 0 0] 25 (0, 0)) := by rw [← hw11]; simp [World.setCell, Array.getElem?_modify, hs10]
  have hz11 : w11.heap[rb]? = some (.cells #[.int .i64 0, .int .i64 0, .int .i64 0, .int .i64 0, .int .i64 0, .string ⟨#[]⟩, .slice none 0 0, .int .i64 0, .int .i64 0, .slice none 0 0] 25 (0, 0)) := by rw [← hw11]; rw [Below.heap_setCell _ _ _ rb (by show rb ≠ sb; have := HSr.out; omega)]; rw [Below.heap_setCell _ _ _ rb (by show rb ≠ sb; have := HSr.out; omega)]; exact hz10
  have hg11 : w.grownBy w11 (some p) := by rw [← hw11]; exact (grown_setNew (grown_setNew hg10 HLs.out 3 _) HLs.out 4 _)
  have hi11 : InSt p s_y.1 s_y.2 w11 := by rw [← hw11]; exact (inst_setOther (inst_setOther hi10 HNp.out 3 _) HNp.out 4 _)
  have HWs := Lib.hid hw11
  clear hs10 hz10 hg10 hi10 hw11
  go_upto_region 6 with fail
  rw [HWs.out]
  clear HWs cs3 fs3 cs4 fs4
  have hCt := intext_any p s_y.1 s_y.2 w11 hi11
  obtain ⟨⟨s_t, v_t⟩, e_t⟩ : ∃ q, pT st = q := ⟨_, rfl⟩
  have d_t : textS s_y.1 s_y.2 = (s_t, v_t) := by rw [← e_t, pT_def, e_y]
  rw [d_t] at hCt
  have HCt := Lib.hid hCt
  have E_t := Lib.hid e_t
  have cl5 : w11.cell? ⟨sb, 5, none⟩ = some (.string ⟨#[]⟩) := by rw [cell_block hs11]; rfl
  have HI11 := Lib.hid (⟨hs11, hz11, hg11⟩ : w11.heap[sb]? = some (.cells #[.int .i64 (v_k : Int), .int .i64 (v_w : Int), .int .i64 (v_h : Int), .int .i64 (v_x : Int), .int .i64 (v_y : Int), .string ⟨#[]⟩, .slice none 0 0, .int .i64 0, .int .i64 0, .slice none 0 0] 25 (0, 0)) ∧ w11.heap[rb]? = some (.cells #[.int .i64 0, .int .i64 0, .int .i64 0, .int .i64 0, .int .i64 0, .string ⟨#[]⟩, .slice none 0 0, .int .i64 0, .int .i64 0, .slice none 0 0] 25 (0, 0)) ∧ w.grownBy w11 (some p))
  clear hs11 hz11 hg11 hi11 hCt d_t e_y cl5
  go_wp2_with fail
  refine HCt.out.mono ?_
  rintro e w12 ⟨tt, rfl, htt, hi12, hgg⟩
  obtain rfl : tt = ⟨v_t.toArray⟩ := bytes_eqN (by rw [htt])
  clear htt
  have hs12 := (hgg.block sb (Array.getElem?_eq_some_iff.1 HI11.out.1).1 (fun e => HNs.out (Option.some.inj e))).trans HI11.out.1
  have hz12 := (hgg.block rb (Array.getElem?_eq_some_iff.1 HI11.out.2.1).1 (fun e => HNr.out (Option.some.inj e))).trans HI11.out.2.1
  have hg12 := grown_trans HI11.out.2.2 hgg
  clear hgg
  have cs5 : w12.cell? ⟨sb, 5, none⟩ = some (.string ⟨#[]⟩) := by rw [cell_block hs12]; rfl
  have fs5 := frozen_block hs12 5
  obtain ⟨w13, hw13⟩ : ∃ w13, (w12.setCell ⟨sb, 5, none⟩ (.string ⟨v_t.toArray⟩)) = w13 := ⟨_, rfl⟩
  have hs13 : w13.heap[sb]? = some (.cells #[.int .i64 (v_k : Int), .int .i64 (v_w : Int), .int .i64 (v_h : Int), .int .i64 (v_x : Int), .int .i64 (v_y : Int), .string ⟨v_t.toArray⟩, .slice none 0 0, .int .i64 0, .int .i64 0, .slice none 0 0] 25 (0, 0)) := by rw [← hw13]; simp [World.setCell, Array.getElem?_modify, hs12]
  have hz13 : w13.heap[rb]? = some (.cells #[.int .i64 0, .int .i64 0, .int .i64 0, .int .i64 0, .int .i64 0, .string ⟨#[]⟩, .slice none 0 0, .int .i64 0, .int .i64 0, .slice none 0 0] 25 (0, 0)) := by rw [← hw13]; rw [Below.heap_setCell _ _ _ rb (by show rb ≠ sb; have := HSr.out; omega)]; exact hz12
  have hg13 : w.grownBy w13 (some p) := by rw [← hw13]; exact (grown_setNew hg12 HLs.out 5 _)
  have hi13 : InSt p s_t.1 s_t.2 w13 := by rw [← hw13]; exact (inst_setOther hi12 HNp.out 5 _)
  have HWs := Lib.hid hw13
  clear hs12 hz12 hg12 hi12 hw13
  go_upto_region 7 with fail
  rw [HWs.out]
  clear HWs cs5 fs5
  have hCn := innum_any p s_t.1 s_t.2 w13 hi13
  obtain ⟨⟨s_n, v_n⟩, e_n⟩ : ∃ q, pN st = q := ⟨_, rfl⟩
  have d_n : numS s_t.1 s_t.2 = (s_n, v_n) := by rw [← e_n, pN_def, e_t]
  rw [d_n] at hCn
  have HCn := Lib.hid hCn
  have E_n := Lib.hid e_n
  have cl7 : w13.cell? ⟨sb, 7, none⟩ = some (.int .i64 0) := by rw [cell_block hs13]; rfl
  have HI13 := Lib.hid (⟨hs13, hz13, hg13⟩ : w13.heap[sb]? = some (.cells #[.int .i64 (v_k : Int), .int .i64 (v_w : Int), .int .i64 (v_h : Int), .int .i64 (v_x : Int), .int .i64 (v_y : Int), .string ⟨v_t.toArray⟩, .slice none 0 0, .int .i64 0, .int .i64 0, .slice none 0 0] 25 (0, 0)) ∧ w13.heap[rb]? = some (.cells #[.int .i64 0, .int .i64 0, .int .i64 0, .int .i64 0, .int .i64 0, .string ⟨#[]⟩, .slice none 0 0, .int .i64 0, .int .i64 0, .slice none 0 0] 25 (0, 0)) ∧ w.grownBy w13 (some p))
  clear hs13 hz13 hg13 hi13 hCn d_n e_t cl7
  go_wp2_with fail
  refine HCn.out.mono ?_
  rintro e w14 ⟨rfl, hi14, hgg⟩
  have hs14 := (hgg.block sb (Array.getElem?_eq_some_iff.1 HI13.out.1).1 (fun e => HNs.out (Option.some.inj e))).trans HI13.out.1
  have hz14 := (hgg.block rb (Array.getElem?_eq_some_iff.1 HI13.out.2.1).1 (fun e => HNr.out (Option.some.inj e))).trans HI13.out.2.1
  have hg14 := grown_trans HI13.out.2.2 hgg
  clear hgg
  have hCc := innum_any p s_n.1 s_n.2 w14 hi14
  obtain ⟨⟨s_c, v_c⟩, e_c⟩ : ∃ q, pC st = q := ⟨_, rfl⟩
  have d_c : numS s_n.1 s_n.2 = (s_c, v_c) := by rw [← e_c, pC_def, e_n]
  rw [d_c] at hCc
  have HCc := Lib.hid hCc
  have E_c := Lib.hid e_c
  have HI14 := Lib.hid (⟨hs14, hz14, hg14⟩ : w14.heap[sb]? = some (.cells #[.int .i64 (v_k : Int), .int .i64 (v_w : Int), .int .i64 (v_h : Int), .int .i64 (v_x : Int), .int .i64 (v_y : Int), .string ⟨v_t.toArray⟩, .slice none 0 0, .int .i64 0, .int .i64 0, .slice none 0 0] 25 (0, 0)) ∧ w14.heap[rb]? = some (.cells #[.int .i64 0, .int .i64 0, .int .i64 0, .int .i64 0, .int .i64 0, .string ⟨#[]⟩, .slice none 0 0, .int .i64 0, .int .i64 0, .slice none 0 0] 25 (0, 0)) ∧ w.grownBy w14 (some p))
  clear hs14 hz14 hg14 hi14 hCc d_c e_n
  go_wp2_with fail
  refine HCc.out.mono ?_
  rintro e w15 ⟨rfl, hi15, hgg⟩
  have hs15 := (hgg.block sb (Array.getElem?_eq_some_iff.1 HI14.out.1).1 (fun e => HNs.out (Option.some.inj e))).trans HI14.out.1
  have hz15 := (hgg.block rb (Array.getElem?_eq_some_iff.1 HI14.out.2.1).1 (fun e => HNr.out (Option.some.inj e))).trans HI14.out.2.1
  have hg15 := grown_trans HI14.out.2.2 hgg
  clear hgg
  have cs7 : w15.cell? ⟨sb, 7, none⟩ = some (.int .i64 0) := by rw [cell_block hs15]; rfl
  have fs7 := frozen_block hs15 7
  have cs8 : w15.cell? ⟨sb, 8, none⟩ = some (.int .i64 0) := by rw [cell_block hs15]; rfl
  have fs8 := frozen_block hs15 8
  obtain ⟨w16, hw16⟩ : ∃ w16, ((w15.setCell ⟨sb, 7, none⟩ (.int .i64 (v_n : Int))).setCell ⟨sb, 8, none⟩ (.int .i64 (v_c : Int))) = w16 := ⟨_, rfl⟩
  have hs16 : w16.heap[sb]? = some (.cells #[.int .i64 (v_k : Int), .int .i64 (v_w : Int), .int .i64 (v_h : Int), .int .i64 (v_x : Int), .int .i64 (v_y : Int), .string ⟨v_t.toArray⟩, .slice none 0 0, .int .i64 (v_n : Int), .int .i64 (v_c : Int), .slice none 0 0] 25 (0, 0)) := by rw [← hw16]; simp [World.setCell, Array.getElem?_modify, hs15]
  have hz16 : w16.heap[rb]? = some (.cells #[.int .i64 0, .int .i64 0, .int .i64 0, .int .i64 0, .int .i64 0, .string ⟨#[]⟩, .slice none 0 0, .int .i64 0, .int .i64 0, .slice none 0 0] 25 (0, 0)) := by rw [← hw16]; rw [Below.heap_setCell _ _ _ rb (by show rb ≠ sb; have := HSr.out; omega)]; rw [Below.heap_setCell _ _ _ rb (by show rb ≠ sb; have := HSr.out; omega)]; exact hz15
  have hg16 : w.grownBy w16 (some p) := by rw [← hw16]; exact (grown_setNew (grown_setNew hg15 HLs.out 7 _) HLs.out 8 _)
  have hi16 : InSt p s_c.1 s_c.2 w16 := by rw [← hw16]; exact (inst_setOther (inst_setOther hi15 HNp.out 7 _) HNp.out 8 _)
  have HWs := Lib.hid hw16
  clear hs15 hz15 hg15 hi15 hw16
  go_upto_region 8 with fail
  rw [HWs.out]
  clear HWs cs7 fs7 cs8 fs8
  have hCB := bread_any p s_c w16 hi16
  obtain ⟨⟨s_B, v_B⟩, e_B⟩ : ∃ q, pB st = q := ⟨_, rfl⟩
  have d_B : readS s_c = (s_B, v_B) := by rw [← e_B, pB_def, e_c]
  unfold RdPost at hCB
  rw [d_B] at hCB
  have HCB := Lib.hid hCB
  have E_B := Lib.hid e_B
  have cl9 : w16.cell? ⟨sb, 9, none⟩ = some (.slice none 0 0) := by rw [cell_block hs16]; rfl
  have HI16 := Lib.hid (⟨hs16, hz16, hg16⟩ : w16.heap[sb]? = some (.cells #[.int .i64 (v_k : Int), .int .i64 (v_w : Int), .int .i64 (v_h : Int), .int .i64 (v_x : Int), .int .i64 (v_y : Int), .string ⟨v_t.toArray⟩, .slice none 0 0, .int .i64 (v_n : Int), .int .i64 (v_c : Int), .slice none 0 0] 25 (0, 0)) ∧ w16.heap[rb]? = some (.cells #[.int .i64 0, .int .i64 0, .int .i64 0, .int .i64 0, .int .i64 0, .string ⟨#[]⟩, .slice none 0 0, .int .i64 0, .int .i64 0, .slice none 0 0] 25 (0, 0)) ∧ w.grownBy w16 (some p))
  clear hs16 hz16 hg16 hi16 hCB d_B e_c cl9
  go_wp2_with fail
  refine HCB.out.mono ?_
  rintro e w17 ⟨vb, rfl, hown, hi17, hgg⟩
  obtain ⟨ya, yc, hvb, -⟩ := hown.shape
  obtain ⟨yn, hyn⟩ : ∃ n, v_B.length = n := ⟨_, rfl⟩
  rw [hyn] at hvb
  subst hvb
  have hs17 := (hgg.block sb (Array.getElem?_eq_some_iff.1 HI16.out.1).1 (fun e => HNs.out (Option.some.inj e))).trans HI16.out.1
  have hz17 := (hgg.block rb (Array.getElem?_eq_some_iff.1 HI16.out.2.1).1 (fun e => HNr.out (Option.some.inj e))).trans HI16.out.2.1
  have hg17 := grown_trans HI16.out.2.2 hgg
  clear hgg
  have cs9 : w17.cell? ⟨sb, 9, none⟩ = some (.slice none 0 0) := by rw [cell_block hs17]; rfl
  have fs9 := frozen_block hs17 9
  obtain ⟨w18, hw18⟩ : ∃ w18, (w17.setCell ⟨sb, 9, none⟩ (.slice ya yn yc)) = w18 := ⟨_, rfl⟩
  have hs18 : w18.heap[sb]? = some (.cells #[.int .i64 (v_k : Int), .int .i64 (v_w : Int), .int .i64 (v_h : Int), .int .i64 (v_x : Int), .int .i64 (v_y : Int), .string ⟨v_t.toArray⟩, .slice none 0 0, .int .i64 (v_n : Int), .int .i64 (v_c : Int), .slice ya yn yc] 25 (0, 0)) := by rw [← hw18]; simp [World.setCell, Array.getElem?_modify, hs17]
  have hz18 : w18.heap[rb]? = some (.cells #[.int .i64 0, .int .i64 0, .int .i64 0, .int .i64 0, .int .i64 0, .string ⟨#[]⟩, .slice none 0 0, .int .i64 0, .int .i64 0, .slice none 0 0] 25 (0, 0)) := by rw [← hw18]; rw [Below.heap_setCell _ _ _ rb (by show rb ≠ sb; have := HSr.out; omega)]; exact hz17
  have hg18 : w.grownBy w18 (some p) := by rw [← hw18]; exact (grown_setNew hg17 HLs.out 9 _)
  have hi18 : InSt p s_B.1 s_B.2 w18 := by rw [← hw18]; exact (inst_setOther hi17 HNp.out 9 _)
  have ho18 : OwnP .i32 86 (sb + 1) (.slice ya yn yc) v_B w18 := by rw [← hw18]; exact (hown.weaken (by have := HI16.out.1; have := (Array.getElem?_eq_some_iff.1 this).1; omega)).kept (grown_set w17 sb 9 _) (fun q hq e => by have := ((hown.weaken (base' := sb + 1) (by have := HI16.out.1; have := (Array.getElem?_eq_some_iff.1 this).1; omega)).ownBlock q hq).1; have := Option.some.inj e; omega)
  have HWs := Lib.hid hw18
  clear hs17 hz17 hg17 hi17 hw18
  go_upto_region 9 with fail
  rw [HWs.out]
  clear HWs cs9 fs9
  have HRI : Hid (RdNI p rb sb v_k v_w v_h v_x v_y ⟨v_t.toArray⟩ v_n v_c ya yn yc v_B w (.slice none 0 0) (.slice none 0 0) (rowsS v_w 0 s_B).2 (rowsS v_w 0 s_B).1 w18) := Lib.hid ⟨hi18, GatR.nil _ _, ho18, hs18, hz18, hg18, (Array.getElem?_eq_some_iff.1 hs18).1, by have := HNr.out; have := HSr.out; have := HRb.out; have := HPl.out; omega, by have := HSr.out; omega, HRb.out⟩
  have ch2 : w18.cell? ⟨sb, 2, none⟩ = some (.int .i64 (v_h : Int)) := by rw [cell_block hs18]; rfl
  have hvw : v_w ≤ 1000 := by have h := atS_le (pK st).1 1000; rw [← pW_def, E_w.out] at h; exact h
  have hvh : v_h ≤ 1000 := by have h := atS_le (pW st).1 1000; rw [← pH_def, E_h.out] at h; exact h
  have HWb : Hid ((v_w : Int) ≤ 2000) := Lib.hid (by omega)
  have HWc : Hid (-1 ≤ (v_w : Int)) := Lib.hid (by omega)
  have hvhI : (v_h : Int) ≤ 1000 := by omega
  have HRdN : Hid (readN st = ((rowsS v_w v_h s_B).1, ⟨v_k, v_w, v_h, v_x, v_y, ⟨v_t.toArray⟩, (rowsS v_w v_h s_B).2, v_n, v_c, v_B⟩)) := Lib.hid (by
    unfold readN
    rw [pR_def, E_k.out, E_w.out, E_h.out, E_x.out, E_y.out, E_t.out, E_n.out, E_c.out, E_B.out])
  clear hi18 ho18 hs18 hz18 hg18 hvw
  go_wp2_with fail
  clear ch2
  go_loopw [33] (fun i wr => ∃ j : Nat, i = .int .i64 (j : Int) ∧ j ≤ v_h ∧ Hid (∃ xa xn xc, RdNI p rb sb v_k v_w v_h v_x v_y ⟨v_t.toArray⟩ v_n v_c ya yn yc v_B w (.slice xa xn xc) (.slice xa xn xc) (rowsS v_w j s_B).2 (rowsS v_w j s_B).1 wr)) (fun i _ => v_h - (intOf i).toNat)
  case atStart => exact ⟨0, rfl, Nat.zero_le _, Lib.hid ⟨_, _, _, HRI.out⟩⟩
  case round =>
    obtain ⟨j, rfl, hj, HF⟩ := hrel
    obtain ⟨xa, xn, xc, hI⟩ := HF.out
    by_cases hlt : j < v_h
    · have hd : decide (j < v_h) = true := decide_eq_true hlt
      have hjI : (j : Int) < v_h := by omega
      obtain ⟨rs, hrs⟩ : ∃ rs, (rowsS v_w j s_B).2 = rs := ⟨_, rfl⟩
      obtain ⟨sj, hsj⟩ : ∃ sj, (rowsS v_w j s_B).1 = sj := ⟨_, rfl⟩
      have HJl : Hid (rs.length ≤ 1000) := Lib.hid (by rw [← hrs, rowsS_len]; omega)
      have HNx : Hid (rowsS v_w (j + 1) s_B = ((readR sj v_w).1, rs ++ [(readR sj v_w).2])) := Lib.hid (by rw [← hrs, ← hsj]; rfl)
      rw [hrs, hsj] at hI
      have HI := Lib.hid hI
      clear hrs hsj hI HF
      go_upto_region 11 with fail
      refine wp_region_kept [5, 6, 7, 9] [2, 2, 0, 0, 0, 1, 2, 3, 3, 4] (by kernel_rfl) (fun i f u => Sr11 p rb sb v_k v_w v_h v_x v_y ⟨v_t.toArray⟩ v_n v_c ya yn yc v_B w (.slice xa xn xc) rs sj i f u) (fun _ _ => True) (RdOk11 p sb (v_w : Int) xa xn xc) (by rfl) (by kernel_rfl) (by kernel_rfl) (by kernel_rfl) (by kernel_rfl) ?hcong ?hOk ?hop ?hdone ?h0
      case hcong => exact fun k f f2 u hs hst => Sr11.cong (fun hk => hs 40 (mem_slots (by subst hk; kernel_rfl))) (fun hk => hs 41 (mem_slots (by subst hk; kernel_rfl))) (fun hk => hs 42 (mem_slots (by subst hk; kernel_rfl))) hst
      case hOk => intro i u w1 w2 h hr; unfold RdOk11 at h ⊢; split <;> first | exact True.intro | exact h
      case h0 => exact HI.out.below ((Below.refl _ _).drew)
      case hop =>
        refine ⟨?_, ?_, ?_, ?_, ?_, ?_, ?_, ?_, ?_, ?_, trivial⟩
        · intro k z v hk hst hag hdep hfr
          refine .inl ⟨rfl, fun K hK => ?_⟩
          have d3 : z.tmps.getD 3 undef = .pointer (some ⟨sb, 0, none⟩) := hag.2.2 3 (by kernel_rfl)
          have e3 := d3
          rw [Array.getD_eq_getD_getElem?] at e3
          have HSt := Lib.hid hst
          clear hdep hfr hag hst
          go_simp
          exact hK _ _ trivial rfl HSt.out
        · intro k z v hk hst hag hdep hfr
          refine .inl ⟨rfl, fun K hK => ?_⟩
          have d35 : z.tmps.getD 35 undef = .pointer (some ⟨sb, 6, none⟩) := hdep { on := 0, ground := .data } (by simp) rfl _ _ rfl rfl
          have e35 := d35
          rw [Array.getD_eq_getD_getElem?] at e35
          have h0 := Sr11.base (Nat.le_trans hk (by decide)) hst
          have l0 := h0.1
          have HSt := Lib.hid hst
          clear hdep hfr hag hst
          go_simp
          exact hK _ _ trivial rfl HSt.out
        · intro k z v hk hst hag hdep hfr
          refine .inl ⟨rfl, fun K hK => ?_⟩
          have d0 : z.tmps.getD 0 undef = .pointer (some ⟨p, 0, none⟩) := hag.2.2 0 (by kernel_rfl)
          have e0 := d0
          rw [Array.getD_eq_getD_getElem?] at e0
          have HSt := Lib.hid hst
          clear hdep hfr hag hst
          go_simp
          exact hK _ _ trivial rfl HSt.out
        · intro k z v hk hst hag hdep hfr
          refine .inl ⟨rfl, fun K hK => ?_⟩
          have d3 : z.tmps.getD 3 undef = .pointer (some ⟨sb, 0, none⟩) := hag.2.2 3 (by kernel_rfl)
          have e3 := d3
          rw [Array.getD_eq_getD_getElem?] at e3
          have HSt := Lib.hid hst
          clear hdep hfr hag hst
          go_simp
          exact hK _ _ trivial rfl HSt.out
        · intro k z v hk hst hag hdep hfr
          refine .inl ⟨rfl, fun K hK => ?_⟩
          have d38 : z.tmps.getD 38 undef = .pointer (some ⟨sb, 1, none⟩) := hdep { on := 3, ground := .data } (by simp) rfl _ _ rfl rfl
          have e38 := d38
          rw [Array.getD_eq_getD_getElem?] at e38
          have h0 := Sr11.base (Nat.le_trans hk (by decide)) hst
          have l1 := h0.2
          have HSt := Lib.hid hst
          clear hdep hfr hag hst
          go_simp
          exact hK _ _ trivial rfl HSt.out
        · intro z v hst hag hdep hfr
          refine ⟨rfl, fun K hK => ?_⟩
          have d37 : z.tmps.getD 37 undef = .pointer (some ⟨p, 0, none⟩) := hdep { on := 2, ground := .data } (by simp) rfl _ _ rfl rfl
          have e37 := d37
          rw [Array.getD_eq_getD_getElem?] at e37
          have d39 : z.tmps.getD 39 undef = .int .i64 (v_w : Int) := hdep { on := 4, ground := .data } (by simp) rfl _ _ rfl rfl
          have e39 := d39
          rw [Array.getD_eq_getD_getElem?] at e39
          have h0 : RdNI p rb sb v_k v_w v_h v_x v_y ⟨v_t.toArray⟩ v_n v_c ya yn yc v_B w (.slice xa xn xc) (.slice xa xn xc) rs sj v := hst
          have HC := Lib.hid (readRow_any p sj (v_w : Int) HWb.out (by have := HWc.out; omega) v h0.i)
          have hsz : 40 < z.tmps.size := by rw [hag.2.1]; show 40 < 46; decide
          have HSt := Lib.hid h0
          clear hdep hfr hag h0 hst
          go_simp
          refine HC.out.mono ?_
          rintro e w' ⟨v2, rfl, hO, hi, hg⟩
          obtain ⟨a4, c4, rfl, hi4, hlo4, hn4, hf4, hx4⟩ := hO.shape
          exact hK _ _ trivial True.intro ⟨HSt.out.took hi hg, a4, (readR sj (v_w : Int).toNat).2.l.length, c4, slot_same hsz, ⟨a4, c4, rfl, hi4, hn4, hf4, hx4⟩, fun b o e => ⟨fun q hq e2 => by have h1 := (hlo4 b o e).1; have h2 := (HSt.out.g.own q hq).2; omega, by have h1 := (hlo4 b o e).1; have h2 := HSt.out.sz; omega, (hlo4 b o e).2.1⟩⟩
        · intro z v hst hag hdep hfr
          refine ⟨rfl, fun K hK => ?_⟩
          obtain ⟨h0, a4, n4, c4, f40, hrow, hlt4⟩ := hst
          obtain ⟨b4, hb4⟩ : ∃ b, (readR sj (v_w : Int).toNat).2.wrapped = b := ⟨_, rfl⟩
          rw [hb4] at f40 hrow
          have d40 : z.tmps.getD 40 undef = .agg #[.slice a4 n4 c4, .bool b4] := f40
          have e40 := d40
          rw [Array.getD_eq_getD_getElem?] at e40
          have hsz : 41 < z.tmps.size := by rw [hag.2.1]; show 41 < 46; decide
          have HSt := Lib.hid h0
          have HLt := Lib.hid hlt4
          have HRow := Lib.hid hrow
          clear hdep hfr hag h0 f40 hrow hlt4 hb4
          go_simp
          have hb : Below v.heap.size v (v.alloc (.cells #[.slice a4 n4 c4, .bool b4] 54)) := (Below.refl _ _).alloc (Nat.le_refl _) _
          exact hK _ _ trivial True.intro ⟨HSt.out.below hb, v.heap.size, slot_same hsz, a4, n4, c4, b4, heap_alloc_new v _, HRow.out.belowAll hb, fun b o e => ⟨(HLt.out b o e).1, (HLt.out b o e).2.1, Nat.lt_of_lt_of_le (HLt.out b o e).2.2 hb.size⟩⟩
        · intro z v hst hag hdep hfr
          refine ⟨rfl, fun K hK => ?_⟩
          have d36 : z.tmps.getD 36 undef = .slice xa xn xc := hdep { on := 1, ground := .data } (by simp) rfl _ _ rfl rfl
          have e36 := d36
          rw [Array.getD_eq_getD_getElem?] at e36
          obtain ⟨h0, q, f41, hR⟩ := hst
          have d41 : z.tmps.getD 41 undef = .slice (some ⟨q, 0, none⟩) 1 1 := f41
          have hsz : 42 < z.tmps.size := by rw [hag.2.1]; show 42 < 46; decide
          have HSt := Lib.hid h0
          obtain ⟨a4, n4, c4, b4, hq4, hrow, hlt4⟩ := hR
          refine wp_append_row rowsT _ _ rfl rfl (sb + 1) (.slice xa xn xc) rs q a4 n4 c4 b4 (readR sj (v_w : Int).toNat).2 d36 d41 HSt.out.g hq4 hrow hlt4 HJl.out HSt.out.sz ?_
          intro v' w' k1 k2
          exact hK _ _ trivial True.intro ⟨v', slot_same hsz, HSt.out.more k1 k2⟩
        · intro k z v hk hst hag hdep hfr
          refine .inl ⟨rfl, fun K hK => ?_⟩
          have d3 : z.tmps.getD 3 undef = .pointer (some ⟨sb, 0, none⟩) := hag.2.2 3 (by kernel_rfl)
          have e3 := d3
          rw [Array.getD_eq_getD_getElem?] at e3
          have HSt := Lib.hid hst
          clear hdep hfr hag hst
          go_simp
          exact hK _ _ trivial rfl HSt.out
        · intro z v hst hag hdep hfr
          refine ⟨rfl, fun K hK => ?_⟩
          have d43 : z.tmps.getD 43 undef = .pointer (some ⟨sb, 6, none⟩) := hdep { on := 8, ground := .data } (by simp) rfl _ _ rfl rfl
          have e43 := d43
          rw [Array.getD_eq_getD_getElem?] at e43
          obtain ⟨v', f42, h7⟩ := hst
          obtain ⟨za, zc, hsl⟩ := h7.g.shape
          obtain ⟨zn, hzn⟩ : ∃ n, (rs ++ [(readR sj (v_w : Int).toNat).2]).length = n := ⟨_, rfl⟩
          rw [hzn] at hsl
          subst hsl
          have d42 : z.tmps.getD 42 undef = .slice za zn zc := f42
          have e42 := d42
          rw [Array.getD_eq_getD_getElem?] at e42
          have l0 : v.cell? ⟨sb, 6, none⟩ = some (.slice xa xn xc) := by rw [cell_block h7.bk]; rfl
          have l1 := frozen_block h7.bk 6
          have HSt := Lib.hid h7
          clear hdep hfr hag h7 f42 hzn
          go_simp
          exact hK undef _ trivial True.intro ⟨za, zn, zc, HSt.out.set za zn zc rfl⟩
      case hdone =>
        intro z v hst hag hok
        obtain ⟨za, zn, zc, hZ⟩ : ∃ za zn zc, RdNI p rb sb v_k v_w v_h v_x v_y ⟨v_t.toArray⟩ v_n v_c ya yn yc v_B w (.slice za zn zc) (.slice za zn zc) (rs ++ [(readR sj ((v_w : Int)).toNat).2]) (readR sj ((v_w : Int)).toNat).1 v := hst
        rw [Int.toNat_natCast] at hZ
        have HE : Hid (∃ xa xn xc, RdNI p rb sb v_k v_w v_h v_x v_y ⟨v_t.toArray⟩ v_n v_c ya yn yc v_B w (.slice xa xn xc) (.slice xa xn xc) (rowsS v_w (j + 1) s_B).2 (rowsS v_w (j + 1) s_B).1 v) := Lib.hid ⟨za, zn, zc, by rw [HNx.out]; exact hZ⟩
        clear hZ
        obtain ⟨uu, hu, hzz⟩ := agree_frame [35, 36, 37, 38, 39, 40, 41, 42, 43] rfl hag

        subst hzz
        simp only [List.foldl_cons, List.foldl_nil]
        clear hu hag hok
        try dsimp only [Exit.then]
        simp only [List.setIfInBounds_toArray, List.set_cons_succ, List.set_cons_zero]
        generalize uu 35 = u35', uu 36 = u36', uu 37 = u37', uu 38 = u38', uu 39 = u39', uu 40 = u40', uu 41 = u41', uu 42 = u42', uu 43 = u43'
        clear uu
        rename_i K hK
        refine hK _ _ ?_
        go_wp2_with fail
        go_roundw
        case rel => exact ⟨j + 1, by go_num, by omega, HE⟩
        case measure => simp [intOf]; omega
    · obtain rfl : j = v_h := by omega
      have hd : decide (j < j) = false := by simp
      obtain ⟨c0, c1, c2, c3, c4, c5, c6, c7, c8, c9⟩ := ten_cells (s := ⟨v_k, v_w, j, v_x, v_y, ⟨v_t.toArray⟩, [], v_n, v_c, []⟩) hI.bk
      obtain ⟨d0, d1, d2, d3, d4, d5, d6, d7, d8, d9⟩ : wr.cell? ⟨rb, 0, none⟩ = some (.int .i64 0) ∧ wr.cell? ⟨rb, 1, none⟩ = some (.int .i64 0) ∧ wr.cell? ⟨rb, 2, none⟩ = some (.int .i64 0) ∧ wr.cell? ⟨rb, 3, none⟩ = some (.int .i64 0) ∧ wr.cell? ⟨rb, 4, none⟩ = some (.int .i64 0) ∧ wr.cell? ⟨rb, 5, none⟩ = some (.string ⟨#[]⟩) ∧ wr.cell? ⟨rb, 6, none⟩ = some (.slice none 0 0) ∧ wr.cell? ⟨rb, 7, none⟩ = some (.int .i64 0) ∧ wr.cell? ⟨rb, 8, none⟩ = some (.int .i64 0) ∧ wr.cell? ⟨rb, 9, none⟩ = some (.slice none 0 0) := ten_cells (s := emptyN) hI.zk
      have f0 := frozen_block hI.zk 0
      have f1 := frozen_block hI.zk 1
      have f2 := frozen_block hI.zk 2
      have f3 := frozen_block hI.zk 3
      have f4 := frozen_block hI.zk 4
      have f5 := frozen_block hI.zk 5
      have f6 := frozen_block hI.zk 6
      have f7 := frozen_block hI.zk 7
      have f8 := frozen_block hI.zk 8
      have f9 := frozen_block hI.zk 9
      simp only at c0 c1 c2 c3 c4 c5 c6 c7 c8 c9
      have hend : Hid (P (.returned (.agg #[.int .i64 (v_k : Int), .int .i64 (v_w : Int), .int .i64 (j : Int), .int .i64 (v_x : Int), .int .i64 (v_y : Int), .string ⟨v_t.toArray⟩, .slice xa xn xc, .int .i64 (v_n : Int), .int .i64 (v_c : Int), .slice ya yn yc])) ((((((((((wr.setCell ⟨rb, 0, none⟩ (.int .i64 (v_k : Int))).setCell ⟨rb, 1, none⟩ (.int .i64 (v_w : Int))).setCell ⟨rb, 2, none⟩ (.int .i64 (j : Int))).setCell ⟨rb, 3, none⟩ (.int .i64 (v_x : Int))).setCell ⟨rb, 4, none⟩ (.int .i64 (v_y : Int))).setCell ⟨rb, 5, none⟩ (.string ⟨v_t.toArray⟩)).setCell ⟨rb, 6, none⟩ (.slice xa xn xc)).setCell ⟨rb, 7, none⟩ (.int .i64 (v_n : Int))).setCell ⟨rb, 8, none⟩ (.int .i64 (v_c : Int))).setCell ⟨rb, 9, none⟩ (.slice ya yn yc))) := Lib.hid (by
        rw [← HP.out, HRdN.out]
        have hp := hI.ps
        have hg : ∀ (u : World) (o : Nat) (x : Value), u.grownBy (u.setCell ⟨rb, o, none⟩ x) (some rb) := fun u o x => grown_set u rb o x
        have g10 : wr.grownBy ((((((((((wr.setCell ⟨rb, 0, none⟩ (.int .i64 (v_k : Int))).setCell ⟨rb, 1, none⟩ (.int .i64 (v_w : Int))).setCell ⟨rb, 2, none⟩ (.int .i64 (j : Int))).setCell ⟨rb, 3, none⟩ (.int .i64 (v_x : Int))).setCell ⟨rb, 4, none⟩ (.int .i64 (v_y : Int))).setCell ⟨rb, 5, none⟩ (.string ⟨v_t.toArray⟩)).setCell ⟨rb, 6, none⟩ (.slice xa xn xc)).setCell ⟨rb, 7, none⟩ (.int .i64 (v_n : Int))).setCell ⟨rb, 8, none⟩ (.int .i64 (v_c : Int))).setCell ⟨rb, 9, none⟩ (.slice ya yn yc)) (some rb) := grown_trans (grown_trans (grown_trans (grown_trans (grown_trans (grown_trans (grown_trans (grown_trans (grown_trans (hg wr 0 _) (hg _ 1 _)) (hg _ 2 _)) (hg _ 3 _)) (hg _ 4 _)) (hg _ 5 _)) (hg _ 6 _)) (hg _ 7 _)) (hg _ 8 _)) (hg _ 9 _)
        have gw : w.grownBy ((((((((((wr.setCell ⟨rb, 0, none⟩ (.int .i64 (v_k : Int))).setCell ⟨rb, 1, none⟩ (.int .i64 (v_w : Int))).setCell ⟨rb, 2, none⟩ (.int .i64 (j : Int))).setCell ⟨rb, 3, none⟩ (.int .i64 (v_x : Int))).setCell ⟨rb, 4, none⟩ (.int .i64 (v_y : Int))).setCell ⟨rb, 5, none⟩ (.string ⟨v_t.toArray⟩)).setCell ⟨rb, 6, none⟩ (.slice xa xn xc)).setCell ⟨rb, 7, none⟩ (.int .i64 (v_n : Int))).setCell ⟨rb, 8, none⟩ (.int .i64 (v_c : Int))).setCell ⟨rb, 9, none⟩ (.slice ya yn yc)) (some p) := grown_setNew (grown_setNew (grown_setNew (grown_setNew (grown_setNew (grown_setNew (grown_setNew (grown_setNew (grown_setNew (grown_setNew (hI.gr) (by omega) 0 _) (by omega) 1 _) (by omega) 2 _) (by omega) 3 _) (by omega) 4 _) (by omega) 5 _) (by omega) 6 _) (by omega) 7 _) (by omega) 8 _) (by omega) 9 _
        have hi : InSt p (rowsS v_w j s_B).1.1 (rowsS v_w j s_B).1.2 ((((((((((wr.setCell ⟨rb, 0, none⟩ (.int .i64 (v_k : Int))).setCell ⟨rb, 1, none⟩ (.int .i64 (v_w : Int))).setCell ⟨rb, 2, none⟩ (.int .i64 (j : Int))).setCell ⟨rb, 3, none⟩ (.int .i64 (v_x : Int))).setCell ⟨rb, 4, none⟩ (.int .i64 (v_y : Int))).setCell ⟨rb, 5, none⟩ (.string ⟨v_t.toArray⟩)).setCell ⟨rb, 6, none⟩ (.slice xa xn xc)).setCell ⟨rb, 7, none⟩ (.int .i64 (v_n : Int))).setCell ⟨rb, 8, none⟩ (.int .i64 (v_c : Int))).setCell ⟨rb, 9, none⟩ (.slice ya yn yc)) := inst_setOther (inst_setOther (inst_setOther (inst_setOther (inst_setOther (inst_setOther (inst_setOther (inst_setOther (inst_setOther (inst_setOther (hI.i) (by omega) 0 _) (by omega) 1 _) (by omega) 2 _) (by omega) 3 _) (by omega) 4 _) (by omega) 5 _) (by omega) 6 _) (by omega) 7 _) (by omega) 8 _) (by omega) 9 _
        exact ⟨xa, xn, xc, ya, yn, yc, rfl, (hI.g.grown g10 (by omega)).weaken (by omega), (ownP_of hI.o g10 (fun q e => .inl (by have := Option.some.inj e; omega))).weaken (by omega), hi, gw⟩)
      clear hI HF hlt
      go_wp2_with fail
      refine bodyPost_ret (v := .agg #[.int .i64 (v_k : Int), .int .i64 (v_w : Int), .int .i64 (j : Int), .int .i64 (v_x : Int), .int .i64 (v_y : Int), .string ⟨v_t.toArray⟩, .slice xa xn xc, .int .i64 (v_n : Int), .int .i64 (v_c : Int), .slice ya yn yc]) (by rw [results_cell rfl]; go_simp) rfl ?_
      exact hend.out
end Go.Proofs.YtohhlhnjopbmhaaGreatDoor.K
