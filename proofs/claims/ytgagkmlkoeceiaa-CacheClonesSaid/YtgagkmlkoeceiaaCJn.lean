/- The contracts of cache.join and cache.leave. -/
import Derived.Test.YtgagkmlkoeceiaaCCh
import Derived.Test.YtgagkmlkoeceiaaRelD
import Derived.Test.YtgagkmlkoeceiaaRelU
namespace Go.Proofs.Ytgagkmlkoeceiaa.C
open Go.RowKit Go.Maps Go.Proofs.Ytgagkmlkoeceiaa.H

/-- alike, but for what was drawn -/
structure EqD (w w' : World) : Prop where
  os : w'.os = w.os
  tape : w'.tape = w.tape
  output : w'.output = w.output
  heap : w'.heap = w.heap
theorem EqD.refl (w : World) : EqD w w := ⟨rfl, rfl, rfl, rfl⟩
theorem EqD.drew {w w' : World} (h : EqD w w') : EqD w w'.drew := ⟨h.os, h.tape, h.output, h.heap⟩
theorem EqD.trans {a b c : World} (h : EqD a b) (k : EqD b c) : EqD a c := ⟨k.os.trans h.os, k.tape.trans h.tape, k.output.trans h.output, k.heap.trans h.heap⟩
theorem EqD.block {w w' : World} (h : EqD w w') (b : Nat) : w'.heap[b]? = w.heap[b]? := by rw [h.heap]
theorem EqD.cell {w w' : World} (h : EqD w w') (a : Addr) : w'.cell? a = w.cell? a := World.cell?_of_block (h.block a.block)
theorem EqD.frozen {w w' : World} (h : EqD w w') (a : Addr) : w'.frozen? a = w.frozen? a := by unfold World.frozen?; rw [h.heap]
theorem EqD.set {w w' : World} (h : EqD w w') (p : Addr) (v : Value) : EqD (w.setCell p v) (w'.setCell p v) := ⟨h.os, h.tape, h.output, by unfold World.setCell; rw [h.heap]⟩
theorem EqD.grown {a b c : World} {r : Option Nat} (h : EqD a b) (g : b.grownBy c r) : a.grownBy c r :=
  ⟨g.os.trans h.os, g.tape.trans h.tape, g.output.trans h.output, by rw [← h.heap]; exact g.size, fun i hi hr => (g.block i (by rw [h.heap]; exact hi) hr).trans (h.block i)⟩
theorem EqD.below {w w' : World} (h : EqD w w') : Below w.heap.size w w' := ⟨h.os, h.tape, h.output, by rw [h.heap]; exact Nat.le_refl _, fun i _ => h.block i⟩
/-- two stores -/
def St2 (w : World) (a1 : Addr) (v1 : Value) (a2 : Addr) (v2 : Value) : Nat → (Nat → Value) → World → Prop
  | 0, _, u => EqD w u
  | 1, _, u => EqD (w.setCell a1 v1) u
  | _, _, u => EqD ((w.setCell a1 v1).setCell a2 v2) u
/-- the map was written -/
def MapUp (w : World) (m : Nat) (es : List (Int × Nat)) (u : World) : Prop := ∃ u0, EqD w u0 ∧ u0.grownBy u (some m) ∧ MapN m es u
def StM (w : World) (m : Nat) (es : List (Int × Nat)) : Nat → (Nat → Value) → World → Prop
  | 0, _, u => EqD w u
  | _, _, u => MapUp w m es u
theorem St2.cong {w : World} {a1 a2 : Addr} {v1 v2 : Value} {k : Nat} {f f2 : Nat → Value} {u : World} (h : St2 w a1 v1 a2 v2 k f u) : St2 w a1 v1 a2 v2 k f2 u := by
  match k, h with
  | 0, h => exact h
  | 1, h => exact h
  | _ + 2, h => exact h
theorem StM.cong {w : World} {m : Nat} {es : List (Int × Nat)} {k : Nat} {f f2 : Nat → Value} {u : World} (h : StM w m es k f u) : StM w m es k f2 u := by
  match k, h with
  | 0, h => exact h
  | _ + 1, h => exact h
def Jn0 (c e xb p : Nat) : Nat → Value → World → Prop
  | 0, u, _ => u = .pointer (some ⟨xb, 0, none⟩)
  | 1, u, _ => u = .pointer (some ⟨xb, 0, none⟩)
  | 2, u, _ => u = .pointer (some ⟨c, 0, none⟩)
  | 3, u, _ => u = .pointer (some ⟨c, 0, none⟩)
  | 4, u, _ => u = .pointer (some ⟨c, 2, none⟩)
  | 5, u, _ => u = .pointer (some ⟨e, 0, none⟩)
  | 6, u, _ => u = .pointer (some ⟨e, 0, none⟩)
  | 7, u, _ => u = .pointer (some ⟨e, 2, none⟩)
  | 8, u, _ => u = .pointer (some ⟨p, 0, none⟩)
  | 9, u, _ => u = .pointer (some ⟨c, 0, none⟩)
  | 10, u, _ => u = .pointer (some ⟨c, 0, none⟩)
  | 11, u, _ => u = .pointer (some ⟨c, 2, none⟩)
  | 12, u, _ => u = .pointer (some ⟨e, 0, none⟩)
  | 13, u, _ => u = .pointer (some ⟨xb, 0, none⟩)
  | 14, u, _ => u = .pointer (some ⟨xb, 2, none⟩)
  | 15, _, _ => True
  | 16, u, _ => u = .pointer (some ⟨xb, 0, none⟩)
  | 17, u, _ => u = .pointer (some ⟨xb, 3, none⟩)
  | 18, _, _ => True
  | _, _, _ => True
def Jn1 (e xb p : Nat) : Nat → Value → World → Prop
  | 0, u, _ => u = .pointer (some ⟨xb, 0, none⟩)
  | 1, u, _ => u = .pointer (some ⟨xb, 0, none⟩)
  | 2, u, _ => u = .pointer (some ⟨xb, 2, none⟩)
  | 3, u, _ => u = .pointer (some ⟨p, 0, none⟩)
  | 4, u, _ => u = .pointer (some ⟨xb, 0, none⟩)
  | 5, u, _ => u = .pointer (some ⟨xb, 0, none⟩)
  | 6, u, _ => u = .pointer (some ⟨xb, 3, none⟩)
  | 7, u, _ => u = .pointer (some ⟨e, 0, none⟩)
  | 8, u, _ => u = .pointer (some ⟨xb, 0, none⟩)
  | 9, u, _ => u = .pointer (some ⟨xb, 0, none⟩)
  | 10, u, _ => u = .pointer (some ⟨p, 0, none⟩)
  | 11, u, _ => u = .pointer (some ⟨p, 3, none⟩)
  | 12, _, _ => True
  | 13, u, _ => u = .pointer (some ⟨e, 0, none⟩)
  | 14, u, _ => u = .pointer (some ⟨e, 2, none⟩)
  | 15, _, _ => True
  | _, _, _ => True
def Jn2 (c m xb : Nat) (i : Int) : Nat → Value → World → Prop
  | 0, u, _ => u = .pointer (some ⟨c, 0, none⟩)
  | 1, u, _ => u = .pointer (some ⟨c, 0, none⟩)
  | 2, u, _ => u = .pointer (some ⟨c, 1, none⟩)
  | 3, u, _ => u = .map (some m)
  | 4, u, _ => u = .pointer (some ⟨xb, 0, none⟩)
  | 5, u, _ => u = .pointer (some ⟨xb, 0, none⟩)
  | 6, u, _ => u = .pointer (some ⟨xb, 0, none⟩)
  | 7, u, _ => u = .int .i64 i
  | 8, u, _ => u = .pointer (some ⟨xb, 0, none⟩)
  | 9, _, _ => True
  | _, _, _ => True
def Lv0 (xb p q : Nat) : Nat → Value → World → Prop
  | 0, u, _ => u = .pointer (some ⟨xb, 0, none⟩)
  | 1, u, _ => u = .pointer (some ⟨xb, 0, none⟩)
  | 2, u, _ => u = .pointer (some ⟨xb, 2, none⟩)
  | 3, u, _ => u = .pointer (some ⟨p, 0, none⟩)
  | 4, u, _ => u = .pointer (some ⟨xb, 0, none⟩)
  | 5, u, _ => u = .pointer (some ⟨xb, 0, none⟩)
  | 6, u, _ => u = .pointer (some ⟨xb, 3, none⟩)
  | 7, u, _ => u = .pointer (some ⟨q, 0, none⟩)
  | 8, u, _ => u = .pointer (some ⟨xb, 0, none⟩)
  | 9, u, _ => u = .pointer (some ⟨xb, 0, none⟩)
  | 10, u, _ => u = .pointer (some ⟨xb, 3, none⟩)
  | 11, u, _ => u = .pointer (some ⟨q, 0, none⟩)
  | 12, u, _ => u = .pointer (some ⟨xb, 0, none⟩)
  | 13, u, _ => u = .pointer (some ⟨xb, 0, none⟩)
  | 14, u, _ => u = .pointer (some ⟨xb, 2, none⟩)
  | 15, u, _ => u = .pointer (some ⟨p, 0, none⟩)
  | 16, u, _ => u = .pointer (some ⟨p, 0, none⟩)
  | 17, u, _ => u = .pointer (some ⟨p, 3, none⟩)
  | 18, _, _ => True
  | 19, u, _ => u = .pointer (some ⟨q, 0, none⟩)
  | 20, u, _ => u = .pointer (some ⟨q, 2, none⟩)
  | 21, _, _ => True
  | _, _, _ => True
def Lv1 (c m xb : Nat) (i : Int) : Nat → Value → World → Prop
  | 0, u, _ => u = .pointer (some ⟨c, 0, none⟩)
  | 1, u, _ => u = .pointer (some ⟨c, 0, none⟩)
  | 2, u, _ => u = .pointer (some ⟨c, 1, none⟩)
  | 3, u, _ => u = .map (some m)
  | 4, u, _ => u = .pointer (some ⟨xb, 0, none⟩)
  | 5, u, _ => u = .pointer (some ⟨xb, 0, none⟩)
  | 6, u, _ => u = .pointer (some ⟨xb, 0, none⟩)
  | 7, u, _ => u = .int .i64 i
  | 8, _, _ => True
  | _, _, _ => True

set_option maxRecDepth 100000 in
set_option maxHeartbeats 8000000 in
theorem join_any {c m e : Nat} {M G : List Nat} {most : Nat} {ns : List Nd} (x : Nd) (w : World) (h : ChAt c m e M G most ns w) (hx : Own1 M G x w) (hn : x.b ∉ e :: blkN ns) (hi : ∀ y ∈ ns, y.i ≠ x.i) (few : ns.length ≤ 65536) :
    Calls Try.prog 27 #[.pointer (some ⟨c, 0, none⟩), .pointer (some ⟨x.b, 0, none⟩)] w fun r w' => r = .returned (.tuple #[]) ∧ ChAt c m e M G most (ns ++ [x]) w' ∧ KeepB M w w' := by
  obtain ⟨A, p, hA⟩ := lastOf e (blkN ns)
  obtain ⟨xb, hxb⟩ : ∃ b, x.b = b := ⟨_, rfl⟩
  obtain ⟨i, hxi⟩ : ∃ i, x.i = i := ⟨_, rfl⟩
  have hp : p ∈ e :: blkN ns := by rw [hA]; simp
  have hxe : xb ≠ e := fun e9 => hn (by rw [hxb, e9]; simp)
  have hxp : xb ≠ p := fun e9 => hn (by rw [hxb, e9]; exact hp)
  obtain ⟨he3, he2⟩ := Links.ends h.lk hA
  have hc2 := h.c2
  have hc1 := h.c1
  have hlx := hx.2.1
  have hx0 := hx.1.c0
  have hwf := hx.2.2.2.1
  rw [hxb] at hlx hx0
  rw [hxi] at hx0 hwf
  have hcx : xb ≠ c := h.cNotLine hlx
  have hce : e ≠ c := h.cNotLine (h.ln e (by simp))
  have hcp : p ≠ c := h.cNotLine (h.ln p hp)
  have hmx : xb ≠ m := h.mNotLine hlx
  have hme : e ≠ m := h.mNotLine (h.ln e (by simp))
  have hmp : p ≠ m := h.mNotLine (h.ln p hp)
  have HC2 : Hid (w.cell? ⟨c, 2, none⟩ = some (.pointer (some ⟨e, 0, none⟩))) := Lib.hid hc2
  have HE2 : Hid (w.cell? ⟨e, 2, none⟩ = some (.pointer (some ⟨p, 0, none⟩))) := Lib.hid he2
  have HLx := Lib.hid hlx
  have HLp := Lib.hid (h.ln p hp)
  have HLe := Lib.hid (h.ln e (by simp))
  have HC1 := Lib.hid hc1
  have HX0 := Lib.hid hx0
  have HCh := Lib.hid h
  have HOx := Lib.hid hx
  have HNx := Lib.hid hn
  have HNi := Lib.hid hi
  have HFw := Lib.hid few
  have HA := Lib.hid hA
  have HXb : Hid (x.b = xb ∧ x.i = i) := Lib.hid ⟨hxb, hxi⟩
  have HI : Hid (-9223372036854775808 ≤ i ∧ i ≤ 9223372036854775807) := Lib.hid ⟨by omega, by omega⟩
  have HD : Hid (xb ≠ e ∧ xb ≠ p ∧ xb ≠ c ∧ e ≠ c ∧ p ≠ c ∧ xb ≠ m ∧ e ≠ m ∧ p ≠ m) := Lib.hid ⟨hxe, hxp, hcx, hce, hcp, hmx, hme, hmp⟩
  rw [hxb]
  clear hc2 hc1 he2 he3 hlx hx0 h hx hn hi few hA hp hxe hxp hcx hce hcp hmx hme hmp hwf hxb hxi
  go_enter Try.func27, Try.ntmps27
  go_upto_region 0 with fail
  refine Go.Proofs.Ytgagkmlkoeceiaa.R.wp_region_due [15, 18] [0, 1, 0, 0, 0, 0, 0, 0, 0, 0, 0, 0, 0, 0, 0, 1, 1, 1, 2] (by kernel_rfl) (St2 w ⟨xb, 2, none⟩ (.pointer (some ⟨p, 0, none⟩)) ⟨xb, 3, none⟩ (.pointer (some ⟨e, 0, none⟩))) (fun _ _ => True) (Jn0 c e xb p) (by rfl) (by kernel_rfl) (by kernel_rfl) (by kernel_rfl) (by kernel_rfl) ?hcong ?hOk ?hop ?hdone ?h0
  case hcong => exact fun k f f2 u hs hst => St2.cong hst
  case hOk => intro i u w1 w2 h hr; unfold Jn0 at h ⊢; split <;> first | exact True.intro | exact h
  case h0 => exact (EqD.refl w).drew
  case hop =>
    refine ⟨?_, ?_, ?_, ?_, ?_, ?_, ?_, ?_, ?_, ?_, ?_, ?_, ?_, ?_, ?_, ?_, ?_, ?_, ?_, trivial⟩
    · intro k z v hk hst hag hdep
      refine .inl ⟨rfl, fun K hK => ?_⟩
      have d1 : z.tmps.getD 1 undef = .pointer (some ⟨xb, 0, none⟩) := hag.2.2 1 (by kernel_rfl)
      have e1 := d1
      rw [Array.getD_eq_getD_getElem?] at e1
      have HSt := Lib.hid hst
      clear hdep hag hst
      go_simp
      exact hK _ _ trivial rfl HSt.out
    · intro k z v hk hst hag hdep
      refine .inl ⟨rfl, fun K hK => ?_⟩
      have d1 : z.tmps.getD 1 undef = .pointer (some ⟨xb, 0, none⟩) := hag.2.2 1 (by kernel_rfl)
      have e1 := d1
      rw [Array.getD_eq_getD_getElem?] at e1
      have HSt := Lib.hid hst
      clear hdep hag hst
      go_simp
      exact hK _ _ trivial rfl HSt.out
    · intro k z v hk hst hag hdep
      refine .inl ⟨rfl, fun K hK => ?_⟩
      have d0 : z.tmps.getD 0 undef = .pointer (some ⟨c, 0, none⟩) := hag.2.2 0 (by kernel_rfl)
      have e0 := d0
      rw [Array.getD_eq_getD_getElem?] at e0
      have HSt := Lib.hid hst
      clear hdep hag hst
      go_simp
      exact hK _ _ trivial rfl HSt.out
    · intro k z v hk hst hag hdep
      refine .inl ⟨rfl, fun K hK => ?_⟩
      have d6 : z.tmps.getD 6 undef = .pointer (some ⟨c, 0, none⟩) := hdep { on := 2, ground := .data } (by simp) rfl _ _ rfl rfl
      have e6 := d6
      rw [Array.getD_eq_getD_getElem?] at e6
      have HSt := Lib.hid hst
      clear hdep hag hst
      go_simp
      exact hK _ _ trivial rfl HSt.out
    · intro k z v hk hst hag hdep
      refine .inl ⟨rfl, fun K hK => ?_⟩
      have d7 : z.tmps.getD 7 undef = .pointer (some ⟨c, 0, none⟩) := hdep { on := 3, ground := .data } (by simp) rfl _ _ rfl rfl
      have e7 := d7
      rw [Array.getD_eq_getD_getElem?] at e7
      have HSt := Lib.hid hst
      clear hdep hag hst
      go_simp
      exact hK _ _ trivial rfl HSt.out
    · intro k z v hk hst hag hdep
      refine .inl ⟨rfl, fun K hK => ?_⟩
      have d8 : z.tmps.getD 8 undef = .pointer (some ⟨c, 2, none⟩) := hdep { on := 4, ground := .data } (by simp) rfl _ _ rfl rfl
      have e8 := d8
      rw [Array.getD_eq_getD_getElem?] at e8
      obtain rfl : k = 0 := by have : k ≤ 0 := hk; omega
      have hq : EqD w v := hst
      have l0 := (hq.cell _).trans HC2.out
      have HSt := Lib.hid hst
      clear hdep hag hst hk hq
      go_simp
      exact hK _ _ trivial rfl HSt.out
    · intro k z v hk hst hag hdep
      refine .inl ⟨rfl, fun K hK => ?_⟩
      have d9 : z.tmps.getD 9 undef = .pointer (some ⟨e, 0, none⟩) := hdep { on := 5, ground := .data } (by simp) rfl _ _ rfl rfl
      have e9 := d9
      rw [Array.getD_eq_getD_getElem?] at e9
      have HSt := Lib.hid hst
      clear hdep hag hst
      go_simp
      exact hK _ _ trivial rfl HSt.out
    · intro k z v hk hst hag hdep
      refine .inl ⟨rfl, fun K hK => ?_⟩
      have d10 : z.tmps.getD 10 undef = .pointer (some ⟨e, 0, none⟩) := hdep { on := 6, ground := .data } (by simp) rfl _ _ rfl rfl
      have e10 := d10
      rw [Array.getD_eq_getD_getElem?] at e10
      have HSt := Lib.hid hst
      clear hdep hag hst
      go_simp
      exact hK _ _ trivial rfl HSt.out
    · intro k z v hk hst hag hdep
      refine .inl ⟨rfl, fun K hK => ?_⟩
      have d11 : z.tmps.getD 11 undef = .pointer (some ⟨e, 2, none⟩) := hdep { on := 7, ground := .data } (by simp) rfl _ _ rfl rfl
      have e11 := d11
      rw [Array.getD_eq_getD_getElem?] at e11
      obtain rfl : k = 0 := by have : k ≤ 0 := hk; omega
      have hq : EqD w v := hst
      have l0 := (hq.cell _).trans HE2.out
      have HSt := Lib.hid hst
      clear hdep hag hst hk hq
      go_simp
      exact hK _ _ trivial rfl HSt.out
    · intro k z v hk hst hag hdep
      refine .inl ⟨rfl, fun K hK => ?_⟩
      have d0 : z.tmps.getD 0 undef = .pointer (some ⟨c, 0, none⟩) := hag.2.2 0 (by kernel_rfl)
      have e0 := d0
      rw [Array.getD_eq_getD_getElem?] at e0
      have HSt := Lib.hid hst
      clear hdep hag hst
      go_simp
      exact hK _ _ trivial rfl HSt.out
    · intro k z v hk hst hag hdep
      refine .inl ⟨rfl, fun K hK => ?_⟩
      have d13 : z.tmps.getD 13 undef = .pointer (some ⟨c, 0, none⟩) := hdep { on := 9, ground := .data } (by simp) rfl _ _ rfl rfl
      have e13 := d13
      rw [Array.getD_eq_getD_getElem?] at e13
      have HSt := Lib.hid hst
      clear hdep hag hst
      go_simp
      exact hK _ _ trivial rfl HSt.out
    · intro k z v hk hst hag hdep
      refine .inl ⟨rfl, fun K hK => ?_⟩
      have d14 : z.tmps.getD 14 undef = .pointer (some ⟨c, 0, none⟩) := hdep { on := 10, ground := .data } (by simp) rfl _ _ rfl rfl
      have e14 := d14
      rw [Array.getD_eq_getD_getElem?] at e14
      have HSt := Lib.hid hst
      clear hdep hag hst
      go_simp
      exact hK _ _ trivial rfl HSt.out
    · intro k z v hk hst hag hdep
      refine .inl ⟨rfl, fun K hK => ?_⟩
      have d15 : z.tmps.getD 15 undef = .pointer (some ⟨c, 2, none⟩) := hdep { on := 11, ground := .data } (by simp) rfl _ _ rfl rfl
      have e15 := d15
      rw [Array.getD_eq_getD_getElem?] at e15
      obtain rfl : k = 0 := by have : k ≤ 0 := hk; omega
      have hq : EqD w v := hst
      have l0 := (hq.cell _).trans HC2.out
      have HSt := Lib.hid hst
      clear hdep hag hst hk hq
      go_simp
      exact hK _ _ trivial rfl HSt.out
    · intro k z v hk hst hag hdep
      refine .inl ⟨rfl, fun K hK => ?_⟩
      have d4 : z.tmps.getD 4 undef = .pointer (some ⟨xb, 0, none⟩) := hdep { on := 0, ground := .data } (by simp) rfl _ _ rfl rfl
      have e4 := d4
      rw [Array.getD_eq_getD_getElem?] at e4
      have HSt := Lib.hid hst
      clear hdep hag hst
      go_simp
      exact hK _ _ trivial rfl HSt.out
    · intro k z v hk hst hag hdep
      refine .inl ⟨rfl, fun K hK => ?_⟩
      have d17 : z.tmps.getD 17 undef = .pointer (some ⟨xb, 0, none⟩) := hdep { on := 13, ground := .data } (by simp) rfl _ _ rfl rfl
      have e17 := d17
      rw [Array.getD_eq_getD_getElem?] at e17
      have HSt := Lib.hid hst
      clear hdep hag hst
      go_simp
      exact hK _ _ trivial rfl HSt.out
    · intro z v hst hag hdep
      refine ⟨rfl, fun K hK => ?_⟩
      have d18 : z.tmps.getD 18 undef = .pointer (some ⟨xb, 2, none⟩) := hdep { on := 14, ground := .data } (by simp) rfl _ _ rfl rfl
      have e18 := d18
      rw [Array.getD_eq_getD_getElem?] at e18
      have d12 : z.tmps.getD 12 undef = .pointer (some ⟨p, 0, none⟩) := hdep { on := 8, ground := .data } (by simp) rfl _ _ rfl rfl
      have e12 := d12
      rw [Array.getD_eq_getD_getElem?] at e12
      have hq : EqD w v := hst
      obtain ⟨u9, s0⟩ := IsLine.cell (show IsLine xb w from HLx.out) 2 (by decide)
      have f0 := IsLine.frozen (show IsLine xb w from HLx.out) 2
      rw [← hq.cell] at s0
      rw [← hq.frozen] at f0
      have HSt := Lib.hid hq
      clear hdep hag hst hq
      go_simp
      exact hK undef _ trivial trivial (HSt.out.set _ _)
    · intro k z v hk hst hag hdep
      refine .inl ⟨rfl, fun K hK => ?_⟩
      have d5 : z.tmps.getD 5 undef = .pointer (some ⟨xb, 0, none⟩) := hdep { on := 1, ground := .data } (by simp) rfl _ _ rfl rfl
      have e5 := d5
      rw [Array.getD_eq_getD_getElem?] at e5
      have HSt := Lib.hid hst
      clear hdep hag hst
      go_simp
      exact hK _ _ trivial rfl HSt.out
    · intro k z v hk hst hag hdep
      refine .inl ⟨rfl, fun K hK => ?_⟩
      have d19 : z.tmps.getD 19 undef = .pointer (some ⟨xb, 0, none⟩) := hdep { on := 16, ground := .data } (by simp) rfl _ _ rfl rfl
      have e19 := d19
      rw [Array.getD_eq_getD_getElem?] at e19
      have HSt := Lib.hid hst
      clear hdep hag hst
      go_simp
      exact hK _ _ trivial rfl HSt.out
    · intro z v hst hag hdep
      refine ⟨rfl, fun K hK => ?_⟩
      have d20 : z.tmps.getD 20 undef = .pointer (some ⟨xb, 3, none⟩) := hdep { on := 17, ground := .data } (by simp) rfl _ _ rfl rfl
      have e20 := d20
      rw [Array.getD_eq_getD_getElem?] at e20
      have d16 : z.tmps.getD 16 undef = .pointer (some ⟨e, 0, none⟩) := hdep { on := 12, ground := .data } (by simp) rfl _ _ rfl rfl
      have e16 := d16
      rw [Array.getD_eq_getD_getElem?] at e16
      have hq : EqD (w.setCell ⟨xb, 2, none⟩ (.pointer (some ⟨p, 0, none⟩))) v := hst
      obtain ⟨u9, s0⟩ := IsLine.cell (show IsLine xb (w.setCell ⟨xb, 2, none⟩ (.pointer (some ⟨p, 0, none⟩))) from HLx.out.set _ _) 3 (by decide)
      have f0 := IsLine.frozen (show IsLine xb (w.setCell ⟨xb, 2, none⟩ (.pointer (some ⟨p, 0, none⟩))) from HLx.out.set _ _) 3
      rw [← hq.cell] at s0
      rw [← hq.frozen] at f0
      have HSt := Lib.hid hq
      clear hdep hag hst hq
      go_simp
      exact hK undef _ trivial trivial (HSt.out.set _ _)
  case hdone =>
    intro z w1 hst hag hok
    have hq1 : EqD ((w.setCell ⟨xb, 2, none⟩ (.pointer (some ⟨p, 0, none⟩))).setCell ⟨xb, 3, none⟩ (.pointer (some ⟨e, 0, none⟩))) w1 := hst
    have HQ1 := Lib.hid hq1
    have HX2 : Hid (w1.cell? ⟨xb, 2, none⟩ = some (.pointer (some ⟨p, 0, none⟩))) := Lib.hid ((hq1.cell _).trans ((cell_other _ (.inr (by decide))).trans (HLx.out.wrote 2 (by decide) _)))
    have HX3 : Hid (w1.cell? ⟨xb, 3, none⟩ = some (.pointer (some ⟨e, 0, none⟩))) := Lib.hid ((hq1.cell _).trans ((HLx.out.set _ _).wrote 3 (by decide) _))
    replace HLp := Lib.hid (((HLp.out.set ⟨xb, 2, none⟩ (.pointer (some ⟨p, 0, none⟩))).set ⟨xb, 3, none⟩ (.pointer (some ⟨e, 0, none⟩))).of_block (hq1.block p))
    replace HLe := Lib.hid (((HLe.out.set ⟨xb, 2, none⟩ (.pointer (some ⟨p, 0, none⟩))).set ⟨xb, 3, none⟩ (.pointer (some ⟨e, 0, none⟩))).of_block (hq1.block e))
    clear hst hq1
    obtain ⟨uu, hu, hzz⟩ := Go.Proofs.Ytgagkmlkoeceiaa.R.agree_frame [4, 5, 6, 7, 8, 9, 10, 11, 12, 13, 14, 15, 16, 17, 18, 19, 20] rfl hag

    subst hzz
    simp only [List.foldl_cons, List.foldl_nil]
    rw []
    clear  hu hag hok
    try dsimp only [Exit.then]
    simp only [List.setIfInBounds_toArray, List.set_cons_succ, List.set_cons_zero]
    generalize uu 4 = u4', uu 5 = u5', uu 6 = u6', uu 7 = u7', uu 8 = u8', uu 9 = u9', uu 10 = u10', uu 11 = u11', uu 12 = u12', uu 13 = u13', uu 14 = u14', uu 15 = u15', uu 16 = u16', uu 17 = u17', uu 18 = u18', uu 19 = u19', uu 20 = u20'
    clear uu
    go_upto_region 1 with fail
    refine Go.Proofs.Ytgagkmlkoeceiaa.R.wp_region_due [12, 15] [0, 0, 0, 0, 0, 0, 0, 0, 0, 1, 0, 0, 1, 1, 1, 2] (by kernel_rfl) (St2 w1 ⟨p, 3, none⟩ (.pointer (some ⟨xb, 0, none⟩)) ⟨e, 2, none⟩ (.pointer (some ⟨xb, 0, none⟩))) (fun _ _ => True) (Jn1 e xb p) (by rfl) (by kernel_rfl) (by kernel_rfl) (by kernel_rfl) (by kernel_rfl) ?hcong ?hOk ?hop ?hdone ?h0
    case hcong => exact fun k f f2 u hs hst => St2.cong hst
    case hOk => intro i u w1 w2 h hr; unfold Jn1 at h ⊢; split <;> first | exact True.intro | exact h
    case h0 => exact (EqD.refl w1).drew
    case hop =>
      refine ⟨?_, ?_, ?_, ?_, ?_, ?_, ?_, ?_, ?_, ?_, ?_, ?_, ?_, ?_, ?_, ?_, trivial⟩
      · intro k z v hk hst hag hdep
        refine .inl ⟨rfl, fun K hK => ?_⟩
        have d1 : z.tmps.getD 1 undef = .pointer (some ⟨xb, 0, none⟩) := hag.2.2 1 (by kernel_rfl)
        have e1 := d1
        rw [Array.getD_eq_getD_getElem?] at e1
        have HSt := Lib.hid hst
        clear hdep hag hst
        go_simp
        exact hK _ _ trivial rfl HSt.out
      · intro k z v hk hst hag hdep
        refine .inl ⟨rfl, fun K hK => ?_⟩
        have d21 : z.tmps.getD 21 undef = .pointer (some ⟨xb, 0, none⟩) := hdep { on := 0, ground := .data } (by simp) rfl _ _ rfl rfl
        have e21 := d21
        rw [Array.getD_eq_getD_getElem?] at e21
        have HSt := Lib.hid hst
        clear hdep hag hst
        go_simp
        exact hK _ _ trivial rfl HSt.out
      · intro k z v hk hst hag hdep
        refine .inl ⟨rfl, fun K hK => ?_⟩
        have d22 : z.tmps.getD 22 undef = .pointer (some ⟨xb, 0, none⟩) := hdep { on := 1, ground := .data } (by simp) rfl _ _ rfl rfl
        have e22 := d22
        rw [Array.getD_eq_getD_getElem?] at e22
        have HSt := Lib.hid hst
        clear hdep hag hst
        go_simp
        exact hK _ _ trivial rfl HSt.out
      · intro k z v hk hst hag hdep
        refine .inl ⟨rfl, fun K hK => ?_⟩
        have d23 : z.tmps.getD 23 undef = .pointer (some ⟨xb, 2, none⟩) := hdep { on := 2, ground := .data } (by simp) rfl _ _ rfl rfl
        have e23 := d23
        rw [Array.getD_eq_getD_getElem?] at e23
        obtain rfl : k = 0 := by have : k ≤ 0 := hk; omega
        have hq : EqD w1 v := hst
        have l0 := (hq.cell _).trans HX2.out
        have HSt := Lib.hid hst
        clear hdep hag hst hk hq
        go_simp
        exact hK _ _ trivial rfl HSt.out
      · intro k z v hk hst hag hdep
        refine .inl ⟨rfl, fun K hK => ?_⟩
        have d1 : z.tmps.getD 1 undef = .pointer (some ⟨xb, 0, none⟩) := hag.2.2 1 (by kernel_rfl)
        have e1 := d1
        rw [Array.getD_eq_getD_getElem?] at e1
        have HSt := Lib.hid hst
        clear hdep hag hst
        go_simp
        exact hK _ _ trivial rfl HSt.out
      · intro k z v hk hst hag hdep
        refine .inl ⟨rfl, fun K hK => ?_⟩
        have d25 : z.tmps.getD 25 undef = .pointer (some ⟨xb, 0, none⟩) := hdep { on := 4, ground := .data } (by simp) rfl _ _ rfl rfl
        have e25 := d25
        rw [Array.getD_eq_getD_getElem?] at e25
        have HSt := Lib.hid hst
        clear hdep hag hst
        go_simp
        exact hK _ _ trivial rfl HSt.out
      · intro k z v hk hst hag hdep
        refine .inl ⟨rfl, fun K hK => ?_⟩
        have d26 : z.tmps.getD 26 undef = .pointer (some ⟨xb, 0, none⟩) := hdep { on := 5, ground := .data } (by simp) rfl _ _ rfl rfl
        have e26 := d26
        rw [Array.getD_eq_getD_getElem?] at e26
        have HSt := Lib.hid hst
        clear hdep hag hst
        go_simp
        exact hK _ _ trivial rfl HSt.out
      · intro k z v hk hst hag hdep
        refine .inl ⟨rfl, fun K hK => ?_⟩
        have d27 : z.tmps.getD 27 undef = .pointer (some ⟨xb, 3, none⟩) := hdep { on := 6, ground := .data } (by simp) rfl _ _ rfl rfl
        have e27 := d27
        rw [Array.getD_eq_getD_getElem?] at e27
        obtain rfl : k = 0 := by have : k ≤ 0 := hk; omega
        have hq : EqD w1 v := hst
        have l0 := (hq.cell _).trans HX3.out
        have HSt := Lib.hid hst
        clear hdep hag hst hk hq
        go_simp
        exact hK _ _ trivial rfl HSt.out
      · intro k z v hk hst hag hdep
        refine .inl ⟨rfl, fun K hK => ?_⟩
        have d1 : z.tmps.getD 1 undef = .pointer (some ⟨xb, 0, none⟩) := hag.2.2 1 (by kernel_rfl)
        have e1 := d1
        rw [Array.getD_eq_getD_getElem?] at e1
        have HSt := Lib.hid hst
        clear hdep hag hst
        go_simp
        exact hK _ _ trivial rfl HSt.out
      · intro k z v hk hst hag hdep
        refine .inl ⟨rfl, fun K hK => ?_⟩
        have d1 : z.tmps.getD 1 undef = .pointer (some ⟨xb, 0, none⟩) := hag.2.2 1 (by kernel_rfl)
        have e1 := d1
        rw [Array.getD_eq_getD_getElem?] at e1
        have HSt := Lib.hid hst
        clear hdep hag hst
        go_simp
        exact hK _ _ trivial rfl HSt.out
      · intro k z v hk hst hag hdep
        refine .inl ⟨rfl, fun K hK => ?_⟩
        have d24 : z.tmps.getD 24 undef = .pointer (some ⟨p, 0, none⟩) := hdep { on := 3, ground := .data } (by simp) rfl _ _ rfl rfl
        have e24 := d24
        rw [Array.getD_eq_getD_getElem?] at e24
        have HSt := Lib.hid hst
        clear hdep hag hst
        go_simp
        exact hK _ _ trivial rfl HSt.out
      · intro k z v hk hst hag hdep
        refine .inl ⟨rfl, fun K hK => ?_⟩
        have d31 : z.tmps.getD 31 undef = .pointer (some ⟨p, 0, none⟩) := hdep { on := 10, ground := .data } (by simp) rfl _ _ rfl rfl
        have e31 := d31
        rw [Array.getD_eq_getD_getElem?] at e31
        have HSt := Lib.hid hst
        clear hdep hag hst
        go_simp
        exact hK _ _ trivial rfl HSt.out
      · intro z v hst hag hdep
        refine ⟨rfl, fun K hK => ?_⟩
        have d32 : z.tmps.getD 32 undef = .pointer (some ⟨p, 3, none⟩) := hdep { on := 11, ground := .data } (by simp) rfl _ _ rfl rfl
        have e32 := d32
        rw [Array.getD_eq_getD_getElem?] at e32
        have d29 : z.tmps.getD 29 undef = .pointer (some ⟨xb, 0, none⟩) := hdep { on := 8, ground := .data } (by simp) rfl _ _ rfl rfl
        have e29 := d29
        rw [Array.getD_eq_getD_getElem?] at e29
        have hq : EqD w1 v := hst
        obtain ⟨u9, s0⟩ := IsLine.cell (show IsLine p w1 from HLp.out) 3 (by decide)
        have f0 := IsLine.frozen (show IsLine p w1 from HLp.out) 3
        rw [← hq.cell] at s0
        rw [← hq.frozen] at f0
        have HSt := Lib.hid hq
        clear hdep hag hst hq
        go_simp
        exact hK undef _ trivial trivial (HSt.out.set _ _)
      · intro k z v hk hst hag hdep
        refine .inl ⟨rfl, fun K hK => ?_⟩
        have d28 : z.tmps.getD 28 undef = .pointer (some ⟨e, 0, none⟩) := hdep { on := 7, ground := .data } (by simp) rfl _ _ rfl rfl
        have e28 := d28
        rw [Array.getD_eq_getD_getElem?] at e28
        have HSt := Lib.hid hst
        clear hdep hag hst
        go_simp
        exact hK _ _ trivial rfl HSt.out
      · intro k z v hk hst hag hdep
        refine .inl ⟨rfl, fun K hK => ?_⟩
        have d33 : z.tmps.getD 33 undef = .pointer (some ⟨e, 0, none⟩) := hdep { on := 13, ground := .data } (by simp) rfl _ _ rfl rfl
        have e33 := d33
        rw [Array.getD_eq_getD_getElem?] at e33
        have HSt := Lib.hid hst
        clear hdep hag hst
        go_simp
        exact hK _ _ trivial rfl HSt.out
      · intro z v hst hag hdep
        refine ⟨rfl, fun K hK => ?_⟩
        have d34 : z.tmps.getD 34 undef = .pointer (some ⟨e, 2, none⟩) := hdep { on := 14, ground := .data } (by simp) rfl _ _ rfl rfl
        have e34 := d34
        rw [Array.getD_eq_getD_getElem?] at e34
        have d30 : z.tmps.getD 30 undef = .pointer (some ⟨xb, 0, none⟩) := hdep { on := 9, ground := .data } (by simp) rfl _ _ rfl rfl
        have e30 := d30
        rw [Array.getD_eq_getD_getElem?] at e30
        have hq : EqD (w1.setCell ⟨p, 3, none⟩ (.pointer (some ⟨xb, 0, none⟩))) v := hst
        obtain ⟨u9, s0⟩ := IsLine.cell (show IsLine e (w1.setCell ⟨p, 3, none⟩ (.pointer (some ⟨xb, 0, none⟩))) from HLe.out.set _ _) 2 (by decide)
        have f0 := IsLine.frozen (show IsLine e (w1.setCell ⟨p, 3, none⟩ (.pointer (some ⟨xb, 0, none⟩))) from HLe.out.set _ _) 2
        rw [← hq.cell] at s0
        rw [← hq.frozen] at f0
        have HSt := Lib.hid hq
        clear hdep hag hst hq
        go_simp
        exact hK undef _ trivial trivial (HSt.out.set _ _)
    case hdone =>
      intro z w2 hst hag hok
      have hq2 : EqD (((w1.setCell ⟨p, 3, none⟩ (.pointer (some ⟨xb, 0, none⟩)))).setCell ⟨e, 2, none⟩ (.pointer (some ⟨xb, 0, none⟩))) w2 := hst
      have hj : EqD (joinW xb p e w) w2 := ((HQ1.out.set _ _).set _ _).trans hq2
      have HJ := Lib.hid hj
      replace HC1 : Hid (w2.cell? ⟨c, 1, none⟩ = some (.map (some m))) := Lib.hid ((hj.cell _).trans ((cell_other _ (.inr (by decide))).trans ((cell_other _ (.inr (by decide))).trans ((cell_other _ (.inr (by decide))).trans ((cell_other _ (.inr (by decide))).trans HC1.out)))))
      replace HX0 : Hid (w2.cell? ⟨xb, 0, none⟩ = some (.int .i64 i)) := Lib.hid ((hj.cell _).trans ((cell_other _ (.inr (by decide))).trans ((cell_other _ (.inr (by decide))).trans ((cell_other _ (.inr (by decide))).trans ((cell_other _ (.inr (by decide))).trans HX0.out)))))
      have HMp : Hid (MapN m (entN ns) w2) := Lib.hid (HCh.out.mp.of_block ((hj.block m).trans ((Below.heap_setCell _ ⟨e, 2, none⟩ _ m (Ne.symm HD.out.2.2.2.2.2.2.1)).trans ((Below.heap_setCell _ ⟨p, 3, none⟩ _ m (Ne.symm HD.out.2.2.2.2.2.2.2)).trans ((Below.heap_setCell _ ⟨xb, 3, none⟩ _ m (Ne.symm HD.out.2.2.2.2.2.1)).trans (Below.heap_setCell _ ⟨xb, 2, none⟩ _ m (Ne.symm HD.out.2.2.2.2.2.1)))))))
      have HIn : Hid (∀ y ∈ entN ns, y.1 ≠ i) := Lib.hid (fun y hy => by
        obtain ⟨z, hz, rfl⟩ := List.mem_map.1 hy
        rw [← HXb.out.2]
        exact HNi.out z hz)
      have HFew : Hid ((entN ns).length ≤ 1000000) := Lib.hid (by have := HFw.out; simp [entN]; omega)
      clear hst hq2 hj
      obtain ⟨uu, hu, hzz⟩ := Go.Proofs.Ytgagkmlkoeceiaa.R.agree_frame [21, 22, 23, 24, 25, 26, 27, 28, 29, 30, 31, 32, 33, 34] rfl hag

      subst hzz
      simp only [List.foldl_cons, List.foldl_nil]
      rw []
      clear  hu hag hok
      try dsimp only [Exit.then]
      simp only [List.setIfInBounds_toArray, List.set_cons_succ, List.set_cons_zero]
      generalize uu 21 = u21', uu 22 = u22', uu 23 = u23', uu 24 = u24', uu 25 = u25', uu 26 = u26', uu 27 = u27', uu 28 = u28', uu 29 = u29', uu 30 = u30', uu 31 = u31', uu 32 = u32', uu 33 = u33', uu 34 = u34'
      clear uu
      go_upto_region 2 with fail
      refine Go.Proofs.Ytgagkmlkoeceiaa.R.wp_region_due [9] [0, 0, 0, 0, 0, 0, 0, 0, 0, 1] (by kernel_rfl) (StM w2 m (entN ns ++ [(i, xb)])) (fun _ _ => True) (Jn2 c m xb i) (by rfl) (by kernel_rfl) (by kernel_rfl) (by kernel_rfl) (by kernel_rfl) ?hcong ?hOk ?hop ?hdone ?h0
      case hcong => exact fun k f f2 u hs hst => StM.cong hst
      case hOk => intro i u w1 w2 h hr; unfold Jn2 at h ⊢; split <;> first | exact True.intro | exact h
      case h0 => exact (EqD.refl w2).drew
      case hop =>
        refine ⟨?_, ?_, ?_, ?_, ?_, ?_, ?_, ?_, ?_, ?_, trivial⟩
        · intro k z v hk hst hag hdep
          refine .inl ⟨rfl, fun K hK => ?_⟩
          have d0 : z.tmps.getD 0 undef = .pointer (some ⟨c, 0, none⟩) := hag.2.2 0 (by kernel_rfl)
          have e0 := d0
          rw [Array.getD_eq_getD_getElem?] at e0
          have HSt := Lib.hid hst
          clear hdep hag hst
          go_simp
          exact hK _ _ trivial rfl HSt.out
        · intro k z v hk hst hag hdep
          refine .inl ⟨rfl, fun K hK => ?_⟩
          have d35 : z.tmps.getD 35 undef = .pointer (some ⟨c, 0, none⟩) := hdep { on := 0, ground := .data } (by simp) rfl _ _ rfl rfl
          have e35 := d35
          rw [Array.getD_eq_getD_getElem?] at e35
          have HSt := Lib.hid hst
          clear hdep hag hst
          go_simp
          exact hK _ _ trivial rfl HSt.out
        · intro k z v hk hst hag hdep
          refine .inl ⟨rfl, fun K hK => ?_⟩
          have d36 : z.tmps.getD 36 undef = .pointer (some ⟨c, 0, none⟩) := hdep { on := 1, ground := .data } (by simp) rfl _ _ rfl rfl
          have e36 := d36
          rw [Array.getD_eq_getD_getElem?] at e36
          have HSt := Lib.hid hst
          clear hdep hag hst
          go_simp
          exact hK _ _ trivial rfl HSt.out
        · intro k z v hk hst hag hdep
          refine .inl ⟨rfl, fun K hK => ?_⟩
          have d37 : z.tmps.getD 37 undef = .pointer (some ⟨c, 1, none⟩) := hdep { on := 2, ground := .data } (by simp) rfl _ _ rfl rfl
          have e37 := d37
          rw [Array.getD_eq_getD_getElem?] at e37
          obtain rfl : k = 0 := by have : k ≤ 0 := hk; omega
          have hq : EqD w2 v := hst
          have l0 := (hq.cell _).trans HC1.out
          have HSt := Lib.hid hst
          clear hdep hag hst hk hq
          go_simp
          exact hK _ _ trivial rfl HSt.out
        · intro k z v hk hst hag hdep
          refine .inl ⟨rfl, fun K hK => ?_⟩
          have d1 : z.tmps.getD 1 undef = .pointer (some ⟨xb, 0, none⟩) := hag.2.2 1 (by kernel_rfl)
          have e1 := d1
          rw [Array.getD_eq_getD_getElem?] at e1
          have HSt := Lib.hid hst
          clear hdep hag hst
          go_simp
          exact hK _ _ trivial rfl HSt.out
        · intro k z v hk hst hag hdep
          refine .inl ⟨rfl, fun K hK => ?_⟩
          have d39 : z.tmps.getD 39 undef = .pointer (some ⟨xb, 0, none⟩) := hdep { on := 4, ground := .data } (by simp) rfl _ _ rfl rfl
          have e39 := d39
          rw [Array.getD_eq_getD_getElem?] at e39
          have HSt := Lib.hid hst
          clear hdep hag hst
          go_simp
          exact hK _ _ trivial rfl HSt.out
        · intro k z v hk hst hag hdep
          refine .inl ⟨rfl, fun K hK => ?_⟩
          have d40 : z.tmps.getD 40 undef = .pointer (some ⟨xb, 0, none⟩) := hdep { on := 5, ground := .data } (by simp) rfl _ _ rfl rfl
          have e40 := d40
          rw [Array.getD_eq_getD_getElem?] at e40
          have HSt := Lib.hid hst
          clear hdep hag hst
          go_simp
          exact hK _ _ trivial rfl HSt.out
        · intro k z v hk hst hag hdep
          refine .inl ⟨rfl, fun K hK => ?_⟩
          have d41 : z.tmps.getD 41 undef = .pointer (some ⟨xb, 0, none⟩) := hdep { on := 6, ground := .data } (by simp) rfl _ _ rfl rfl
          have e41 := d41
          rw [Array.getD_eq_getD_getElem?] at e41
          obtain rfl : k = 0 := by have : k ≤ 0 := hk; omega
          have hq : EqD w2 v := hst
          have l0 := (hq.cell _).trans HX0.out
          have HSt := Lib.hid hst
          clear hdep hag hst hk hq
          go_simp
          exact hK _ _ trivial rfl HSt.out
        · intro k z v hk hst hag hdep
          refine .inl ⟨rfl, fun K hK => ?_⟩
          have d1 : z.tmps.getD 1 undef = .pointer (some ⟨xb, 0, none⟩) := hag.2.2 1 (by kernel_rfl)
          have e1 := d1
          rw [Array.getD_eq_getD_getElem?] at e1
          have HSt := Lib.hid hst
          clear hdep hag hst
          go_simp
          exact hK _ _ trivial rfl HSt.out
        · intro z v hst hag hdep
          refine ⟨rfl, fun K hK => ?_⟩
          have d38 : z.tmps.getD 38 undef = .map (some m) := hdep { on := 3, ground := .data } (by simp) rfl _ _ rfl rfl
          have e38 := d38
          rw [Array.getD_eq_getD_getElem?] at e38
          have d42 : z.tmps.getD 42 undef = .int .i64 i := hdep { on := 7, ground := .data } (by simp) rfl _ _ rfl rfl
          have e42 := d42
          rw [Array.getD_eq_getD_getElem?] at e42
          have d43 : z.tmps.getD 43 undef = .pointer (some ⟨xb, 0, none⟩) := hdep { on := 8, ground := .data } (by simp) rfl _ _ rfl rfl
          have e43 := d43
          rw [Array.getD_eq_getD_getElem?] at e43
          have hq : EqD w2 v := hst
          obtain ⟨w9, hrun, hmp, hg⟩ := (HMp.out.of_block (hq.block m)).put HI.out HIn.out HFew.out xb
          have HSt : Hid (MapUp w2 m (entN ns ++ [(i, xb)]) w9) := Lib.hid ⟨v, hq, hg, hmp⟩
          clear hdep hag hst hq hmp hg
          go_simp
          exact hK undef _ trivial trivial HSt.out
      case hdone =>
        intro z w3 hst hag hok
        have hu : MapUp w2 m (entN ns ++ [(i, xb)]) w3 := hst
        obtain ⟨u0, hu1, hu2, hu3⟩ := hu
        have hend := HCh.out.joined HOx.out HNx.out (by rw [HXb.out.2]; intro y hy; rw [← HXb.out.2]; exact HNi.out y hy) HFw.out HA.out (by rw [HXb.out.1]) ((HJ.out.trans hu1).grown hu2) (by rw [HXb.out.1, HXb.out.2]; exact hu3)
        have HEnd := Lib.hid hend
        clear hst hu1 hu2 hu3 hend
        obtain ⟨uu, hu, hzz⟩ := Go.Proofs.Ytgagkmlkoeceiaa.R.agree_frame [35, 36, 37, 38, 39, 40, 41, 42, 43] rfl hag

        subst hzz
        simp only [List.foldl_cons, List.foldl_nil]
        rw []
        clear  hu hag hok
        try dsimp only [Exit.then]
        simp only [List.setIfInBounds_toArray, List.set_cons_succ, List.set_cons_zero]
        generalize uu 35 = u35', uu 36 = u36', uu 37 = u37', uu 38 = u38', uu 39 = u39', uu 40 = u40', uu 41 = u41', uu 42 = u42', uu 43 = u43'
        clear uu
        go_wp2_with fail
        go_end0
        exact ⟨rfl, HEnd.out⟩
set_option maxRecDepth 100000 in
set_option maxHeartbeats 8000000 in
theorem leave_any {c m e : Nat} {M G : List Nat} {most : Nat} {ls cs : List Nd} (x : Nd) (w : World) (h : ChAt c m e M G most (ls ++ x :: cs) w) :
    Calls Try.prog 28 #[.pointer (some ⟨c, 0, none⟩), .pointer (some ⟨x.b, 0, none⟩)] w fun r w' => r = .returned (.tuple #[]) ∧ ChAt c m e M G most (ls ++ cs) w' ∧ KeepB M w w' ∧ Own1 M G x w' := by
  obtain ⟨A, p, hA⟩ := lastOf e (blkN ls)
  obtain ⟨q, B, hB⟩ := headOf (blkN cs) e
  obtain ⟨xb, hxb⟩ : ∃ b, x.b = b := ⟨_, rfl⟩
  obtain ⟨i, hxi⟩ : ∃ i, x.i = i := ⟨_, rfl⟩
  have hbx : blkN (ls ++ x :: cs) = blkN ls ++ x.b :: blkN cs := by rw [blkN_append]; rfl
  have hp : p ∈ e :: blkN (ls ++ x :: cs) := by
    have : p ∈ e :: blkN ls := by rw [hA]; simp
    rw [hbx]
    rcases List.mem_cons.1 this with h9 | h9
    · rw [h9]; simp
    · exact List.mem_cons_of_mem _ (List.mem_append_left _ h9)
  have hq : q ∈ e :: blkN (ls ++ x :: cs) := by
    have : q ∈ blkN cs ++ [e] := by rw [hB]; simp
    rw [hbx]
    rcases List.mem_append.1 this with h9 | h9
    · exact List.mem_cons_of_mem _ (List.mem_append_right _ (List.mem_cons_of_mem _ h9))
    · rw [show q = e by simpa using h9]; simp
  have hx := h.own1 (y := x) (by simp)
  have hlk := h.lk
  rw [hbx] at hlk
  obtain ⟨-, hx2, hx3, -⟩ := Links.beside hlk hA hB
  have hc1 := h.c1
  have hx0 := hx.1.c0
  have hwf := hx.2.2.2.1
  have hmp := h.mp
  rw [entN_append] at hmp
  rw [hxb] at hx0 hx2 hx3
  rw [hxi] at hx0 hwf
  have hne : ∀ y ∈ entN ls ++ entN cs, y.1 ≠ i := fun y hy e9 => by
    have hnum := h.num
    rw [List.map_append, List.map_cons, hxi] at hnum
    have h9 := List.nodup_append.1 hnum
    rcases List.mem_append.1 hy with hy | hy
    · obtain ⟨z, hz, rfl⟩ := List.mem_map.1 hy
      exact h9.2.2 z.i (List.mem_map.2 ⟨z, hz, rfl⟩) i (by simp) e9
    · obtain ⟨z, hz, rfl⟩ := List.mem_map.1 hy
      exact (List.nodup_cons.1 h9.2.1).1 (List.mem_map.2 ⟨z, hz, e9⟩)
  have hmpp : p ≠ m := h.mNotLine (h.ln p hp)
  have hmq : q ≠ m := h.mNotLine (h.ln q hq)
  have HX2 : Hid (w.cell? ⟨xb, 2, none⟩ = some (.pointer (some ⟨p, 0, none⟩))) := Lib.hid hx2
  have HX3 : Hid (w.cell? ⟨xb, 3, none⟩ = some (.pointer (some ⟨q, 0, none⟩))) := Lib.hid hx3
  have HLp := Lib.hid (h.ln p hp)
  have HLq := Lib.hid (h.ln q hq)
  have HC1 := Lib.hid hc1
  have HX0 := Lib.hid hx0
  have HCh := Lib.hid h
  have HA := Lib.hid hA
  have HB := Lib.hid hB
  have HMp : Hid (MapN m (entN ls ++ (i, xb) :: entN cs) w) := Lib.hid (by rw [show entN (x :: cs) = (x.i, x.b) :: entN cs from rfl, hxi, hxb] at hmp; exact hmp)
  have HIn := Lib.hid hne
  have HI : Hid (-9223372036854775808 ≤ i ∧ i ≤ 9223372036854775807) := Lib.hid ⟨by omega, by omega⟩
  have HD : Hid (p ≠ m ∧ q ≠ m) := Lib.hid ⟨hmpp, hmq⟩
  rw [hxb]
  clear hc1 hx0 h hx hA hB hp hq hwf hxb hxi hmp hne hmpp hmq hlk hx2 hx3 hbx
  go_enter Try.func28, Try.ntmps28
  go_upto_region 0 with fail
  refine Go.Proofs.Ytgagkmlkoeceiaa.R.wp_region_due [18, 21] [0, 0, 0, 0, 0, 0, 0, 0, 0, 0, 0, 0, 0, 0, 0, 0, 0, 0, 1, 1, 1, 2] (by kernel_rfl) (St2 w ⟨p, 3, none⟩ (.pointer (some ⟨q, 0, none⟩)) ⟨q, 2, none⟩ (.pointer (some ⟨p, 0, none⟩))) (fun _ _ => True) (Lv0 xb p q) (by rfl) (by kernel_rfl) (by kernel_rfl) (by kernel_rfl) (by kernel_rfl) ?hcong ?hOk ?hop ?hdone ?h0
  case hcong => exact fun k f f2 u hs hst => St2.cong hst
  case hOk => intro i u w1 w2 h hr; unfold Lv0 at h ⊢; split <;> first | exact True.intro | exact h
  case h0 => exact (EqD.refl w).drew
  case hop =>
    refine ⟨?_, ?_, ?_, ?_, ?_, ?_, ?_, ?_, ?_, ?_, ?_, ?_, ?_, ?_, ?_, ?_, ?_, ?_, ?_, ?_, ?_, ?_, trivial⟩
    · intro k z v hk hst hag hdep
      refine .inl ⟨rfl, fun K hK => ?_⟩
      have d1 : z.tmps.getD 1 undef = .pointer (some ⟨xb, 0, none⟩) := hag.2.2 1 (by kernel_rfl)
      have e1 := d1
      rw [Array.getD_eq_getD_getElem?] at e1
      have HSt := Lib.hid hst
      clear hdep hag hst
      go_simp
      exact hK _ _ trivial rfl HSt.out
    · intro k z v hk hst hag hdep
      refine .inl ⟨rfl, fun K hK => ?_⟩
      have d4 : z.tmps.getD 4 undef = .pointer (some ⟨xb, 0, none⟩) := hdep { on := 0, ground := .data } (by simp) rfl _ _ rfl rfl
      have e4 := d4
      rw [Array.getD_eq_getD_getElem?] at e4
      have HSt := Lib.hid hst
      clear hdep hag hst
      go_simp
      exact hK _ _ trivial rfl HSt.out
    · intro k z v hk hst hag hdep
      refine .inl ⟨rfl, fun K hK => ?_⟩
      have d5 : z.tmps.getD 5 undef = .pointer (some ⟨xb, 0, none⟩) := hdep { on := 1, ground := .data } (by simp) rfl _ _ rfl rfl
      have e5 := d5
      rw [Array.getD_eq_getD_getElem?] at e5
      have HSt := Lib.hid hst
      clear hdep hag hst
      go_simp
      exact hK _ _ trivial rfl HSt.out
    · intro k z v hk hst hag hdep
      refine .inl ⟨rfl, fun K hK => ?_⟩
      have d6 : z.tmps.getD 6 undef = .pointer (some ⟨xb, 2, none⟩) := hdep { on := 2, ground := .data } (by simp) rfl _ _ rfl rfl
      have e6 := d6
      rw [Array.getD_eq_getD_getElem?] at e6
      obtain rfl : k = 0 := by have : k ≤ 0 := hk; omega
      have hq : EqD w v := hst
      have l0 := (hq.cell _).trans HX2.out
      have HSt := Lib.hid hst
      clear hdep hag hst hk hq
      go_simp
      exact hK _ _ trivial rfl HSt.out
    · intro k z v hk hst hag hdep
      refine .inl ⟨rfl, fun K hK => ?_⟩
      have d1 : z.tmps.getD 1 undef = .pointer (some ⟨xb, 0, none⟩) := hag.2.2 1 (by kernel_rfl)
      have e1 := d1
      rw [Array.getD_eq_getD_getElem?] at e1
      have HSt := Lib.hid hst
      clear hdep hag hst
      go_simp
      exact hK _ _ trivial rfl HSt.out
    · intro k z v hk hst hag hdep
      refine .inl ⟨rfl, fun K hK => ?_⟩
      have d8 : z.tmps.getD 8 undef = .pointer (some ⟨xb, 0, none⟩) := hdep { on := 4, ground := .data } (by simp) rfl _ _ rfl rfl
      have e8 := d8
      rw [Array.getD_eq_getD_getElem?] at e8
      have HSt := Lib.hid hst
      clear hdep hag hst
      go_simp
      exact hK _ _ trivial rfl HSt.out
    · intro k z v hk hst hag hdep
      refine .inl ⟨rfl, fun K hK => ?_⟩
      have d9 : z.tmps.getD 9 undef = .pointer (some ⟨xb, 0, none⟩) := hdep { on := 5, ground := .data } (by simp) rfl _ _ rfl rfl
      have e9 := d9
      rw [Array.getD_eq_getD_getElem?] at e9
      have HSt := Lib.hid hst
      clear hdep hag hst
      go_simp
      exact hK _ _ trivial rfl HSt.out
    · intro k z v hk hst hag hdep
      refine .inl ⟨rfl, fun K hK => ?_⟩
      have d10 : z.tmps.getD 10 undef = .pointer (some ⟨xb, 3, none⟩) := hdep { on := 6, ground := .data } (by simp) rfl _ _ rfl rfl
      have e10 := d10
      rw [Array.getD_eq_getD_getElem?] at e10
      obtain rfl : k = 0 := by have : k ≤ 0 := hk; omega
      have hq : EqD w v := hst
      have l0 := (hq.cell _).trans HX3.out
      have HSt := Lib.hid hst
      clear hdep hag hst hk hq
      go_simp
      exact hK _ _ trivial rfl HSt.out
    · intro k z v hk hst hag hdep
      refine .inl ⟨rfl, fun K hK => ?_⟩
      have d1 : z.tmps.getD 1 undef = .pointer (some ⟨xb, 0, none⟩) := hag.2.2 1 (by kernel_rfl)
      have e1 := d1
      rw [Array.getD_eq_getD_getElem?] at e1
      have HSt := Lib.hid hst
      clear hdep hag hst
      go_simp
      exact hK _ _ trivial rfl HSt.out
    · intro k z v hk hst hag hdep
      refine .inl ⟨rfl, fun K hK => ?_⟩
      have d12 : z.tmps.getD 12 undef = .pointer (some ⟨xb, 0, none⟩) := hdep { on := 8, ground := .data } (by simp) rfl _ _ rfl rfl
      have e12 := d12
      rw [Array.getD_eq_getD_getElem?] at e12
      have HSt := Lib.hid hst
      clear hdep hag hst
      go_simp
      exact hK _ _ trivial rfl HSt.out
    · intro k z v hk hst hag hdep
      refine .inl ⟨rfl, fun K hK => ?_⟩
      have d13 : z.tmps.getD 13 undef = .pointer (some ⟨xb, 0, none⟩) := hdep { on := 9, ground := .data } (by simp) rfl _ _ rfl rfl
      have e13 := d13
      rw [Array.getD_eq_getD_getElem?] at e13
      have HSt := Lib.hid hst
      clear hdep hag hst
      go_simp
      exact hK _ _ trivial rfl HSt.out
    · intro k z v hk hst hag hdep
      refine .inl ⟨rfl, fun K hK => ?_⟩
      have d14 : z.tmps.getD 14 undef = .pointer (some ⟨xb, 3, none⟩) := hdep { on := 10, ground := .data } (by simp) rfl _ _ rfl rfl
      have e14 := d14
      rw [Array.getD_eq_getD_getElem?] at e14
      obtain rfl : k = 0 := by have : k ≤ 0 := hk; omega
      have hq : EqD w v := hst
      have l0 := (hq.cell _).trans HX3.out
      have HSt := Lib.hid hst
      clear hdep hag hst hk hq
      go_simp
      exact hK _ _ trivial rfl HSt.out
    · intro k z v hk hst hag hdep
      refine .inl ⟨rfl, fun K hK => ?_⟩
      have d1 : z.tmps.getD 1 undef = .pointer (some ⟨xb, 0, none⟩) := hag.2.2 1 (by kernel_rfl)
      have e1 := d1
      rw [Array.getD_eq_getD_getElem?] at e1
      have HSt := Lib.hid hst
      clear hdep hag hst
      go_simp
      exact hK _ _ trivial rfl HSt.out
    · intro k z v hk hst hag hdep
      refine .inl ⟨rfl, fun K hK => ?_⟩
      have d16 : z.tmps.getD 16 undef = .pointer (some ⟨xb, 0, none⟩) := hdep { on := 12, ground := .data } (by simp) rfl _ _ rfl rfl
      have e16 := d16
      rw [Array.getD_eq_getD_getElem?] at e16
      have HSt := Lib.hid hst
      clear hdep hag hst
      go_simp
      exact hK _ _ trivial rfl HSt.out
    · intro k z v hk hst hag hdep
      refine .inl ⟨rfl, fun K hK => ?_⟩
      have d17 : z.tmps.getD 17 undef = .pointer (some ⟨xb, 0, none⟩) := hdep { on := 13, ground := .data } (by simp) rfl _ _ rfl rfl
      have e17 := d17
      rw [Array.getD_eq_getD_getElem?] at e17
      have HSt := Lib.hid hst
      clear hdep hag hst
      go_simp
      exact hK _ _ trivial rfl HSt.out
    · intro k z v hk hst hag hdep
      refine .inl ⟨rfl, fun K hK => ?_⟩
      have d18 : z.tmps.getD 18 undef = .pointer (some ⟨xb, 2, none⟩) := hdep { on := 14, ground := .data } (by simp) rfl _ _ rfl rfl
      have e18 := d18
      rw [Array.getD_eq_getD_getElem?] at e18
      obtain rfl : k = 0 := by have : k ≤ 0 := hk; omega
      have hq : EqD w v := hst
      have l0 := (hq.cell _).trans HX2.out
      have HSt := Lib.hid hst
      clear hdep hag hst hk hq
      go_simp
      exact hK _ _ trivial rfl HSt.out
    · intro k z v hk hst hag hdep
      refine .inl ⟨rfl, fun K hK => ?_⟩
      have d7 : z.tmps.getD 7 undef = .pointer (some ⟨p, 0, none⟩) := hdep { on := 3, ground := .data } (by simp) rfl _ _ rfl rfl
      have e7 := d7
      rw [Array.getD_eq_getD_getElem?] at e7
      have HSt := Lib.hid hst
      clear hdep hag hst
      go_simp
      exact hK _ _ trivial rfl HSt.out
    · intro k z v hk hst hag hdep
      refine .inl ⟨rfl, fun K hK => ?_⟩
      have d20 : z.tmps.getD 20 undef = .pointer (some ⟨p, 0, none⟩) := hdep { on := 16, ground := .data } (by simp) rfl _ _ rfl rfl
      have e20 := d20
      rw [Array.getD_eq_getD_getElem?] at e20
      have HSt := Lib.hid hst
      clear hdep hag hst
      go_simp
      exact hK _ _ trivial rfl HSt.out
    · intro z v hst hag hdep
      refine ⟨rfl, fun K hK => ?_⟩
      have d21 : z.tmps.getD 21 undef = .pointer (some ⟨p, 3, none⟩) := hdep { on := 17, ground := .data } (by simp) rfl _ _ rfl rfl
      have e21 := d21
      rw [Array.getD_eq_getD_getElem?] at e21
      have d15 : z.tmps.getD 15 undef = .pointer (some ⟨q, 0, none⟩) := hdep { on := 11, ground := .data } (by simp) rfl _ _ rfl rfl
      have e15 := d15
      rw [Array.getD_eq_getD_getElem?] at e15
      have hq : EqD w v := hst
      obtain ⟨u9, s0⟩ := IsLine.cell (show IsLine p w from HLp.out) 3 (by decide)
      have f0 := IsLine.frozen (show IsLine p w from HLp.out) 3
      rw [← hq.cell] at s0
      rw [← hq.frozen] at f0
      have HSt := Lib.hid hq
      clear hdep hag hst hq
      go_simp
      exact hK undef _ trivial trivial (HSt.out.set _ _)
    · intro k z v hk hst hag hdep
      refine .inl ⟨rfl, fun K hK => ?_⟩
      have d11 : z.tmps.getD 11 undef = .pointer (some ⟨q, 0, none⟩) := hdep { on := 7, ground := .data } (by simp) rfl _ _ rfl rfl
      have e11 := d11
      rw [Array.getD_eq_getD_getElem?] at e11
      have HSt := Lib.hid hst
      clear hdep hag hst
      go_simp
      exact hK _ _ trivial rfl HSt.out
    · intro k z v hk hst hag hdep
      refine .inl ⟨rfl, fun K hK => ?_⟩
      have d22 : z.tmps.getD 22 undef = .pointer (some ⟨q, 0, none⟩) := hdep { on := 19, ground := .data } (by simp) rfl _ _ rfl rfl
      have e22 := d22
      rw [Array.getD_eq_getD_getElem?] at e22
      have HSt := Lib.hid hst
      clear hdep hag hst
      go_simp
      exact hK _ _ trivial rfl HSt.out
    · intro z v hst hag hdep
      refine ⟨rfl, fun K hK => ?_⟩
      have d23 : z.tmps.getD 23 undef = .pointer (some ⟨q, 2, none⟩) := hdep { on := 20, ground := .data } (by simp) rfl _ _ rfl rfl
      have e23 := d23
      rw [Array.getD_eq_getD_getElem?] at e23
      have d19 : z.tmps.getD 19 undef = .pointer (some ⟨p, 0, none⟩) := hdep { on := 15, ground := .data } (by simp) rfl _ _ rfl rfl
      have e19 := d19
      rw [Array.getD_eq_getD_getElem?] at e19
      have hq : EqD (w.setCell ⟨p, 3, none⟩ (.pointer (some ⟨q, 0, none⟩))) v := hst
      obtain ⟨u9, s0⟩ := IsLine.cell (show IsLine q (w.setCell ⟨p, 3, none⟩ (.pointer (some ⟨q, 0, none⟩))) from HLq.out.set _ _) 2 (by decide)
      have f0 := IsLine.frozen (show IsLine q (w.setCell ⟨p, 3, none⟩ (.pointer (some ⟨q, 0, none⟩))) from HLq.out.set _ _) 2
      rw [← hq.cell] at s0
      rw [← hq.frozen] at f0
      have HSt := Lib.hid hq
      clear hdep hag hst hq
      go_simp
      exact hK undef _ trivial trivial (HSt.out.set _ _)
  case hdone =>
    intro z w1 hst hag hok
    have hq1 : EqD (leaveW p q w) w1 := hst
    have HQ1 := Lib.hid hq1
    replace HC1 : Hid (w1.cell? ⟨c, 1, none⟩ = some (.map (some m))) := Lib.hid ((hq1.cell _).trans ((cell_other _ (.inr (by decide))).trans ((cell_other _ (.inr (by decide))).trans HC1.out)))
    replace HX0 : Hid (w1.cell? ⟨xb, 0, none⟩ = some (.int .i64 i)) := Lib.hid ((hq1.cell _).trans ((cell_other _ (.inr (by decide))).trans ((cell_other _ (.inr (by decide))).trans HX0.out)))
    replace HMp : Hid (MapN m (entN ls ++ (i, xb) :: entN cs) w1) := Lib.hid (HMp.out.of_block ((hq1.block m).trans ((Below.heap_setCell _ ⟨q, 2, none⟩ _ m (Ne.symm HD.out.2)).trans (Below.heap_setCell _ ⟨p, 3, none⟩ _ m (Ne.symm HD.out.1)))))
    clear hst hq1
    obtain ⟨uu, hu, hzz⟩ := Go.Proofs.Ytgagkmlkoeceiaa.R.agree_frame [4, 5, 6, 7, 8, 9, 10, 11, 12, 13, 14, 15, 16, 17, 18, 19, 20, 21, 22, 23] rfl hag

    subst hzz
    simp only [List.foldl_cons, List.foldl_nil]
    rw []
    clear  hu hag hok
    try dsimp only [Exit.then]
    simp only [List.setIfInBounds_toArray, List.set_cons_succ, List.set_cons_zero]
    generalize uu 4 = u4', uu 5 = u5', uu 6 = u6', uu 7 = u7', uu 8 = u8', uu 9 = u9', uu 10 = u10', uu 11 = u11', uu 12 = u12', uu 13 = u13', uu 14 = u14', uu 15 = u15', uu 16 = u16', uu 17 = u17', uu 18 = u18', uu 19 = u19', uu 20 = u20', uu 21 = u21', uu 22 = u22', uu 23 = u23'
    clear uu
    go_upto_region 1 with fail
    refine Go.Proofs.Ytgagkmlkoeceiaa.R.wp_region_due [8] [0, 0, 0, 0, 0, 0, 0, 0, 1] (by kernel_rfl) (StM w1 m (entN ls ++ entN cs)) (fun _ _ => True) (Lv1 c m xb i) (by rfl) (by kernel_rfl) (by kernel_rfl) (by kernel_rfl) (by kernel_rfl) ?hcong ?hOk ?hop ?hdone ?h0
    case hcong => exact fun k f f2 u hs hst => StM.cong hst
    case hOk => intro i u w1 w2 h hr; unfold Lv1 at h ⊢; split <;> first | exact True.intro | exact h
    case h0 => exact (EqD.refl w1).drew
    case hop =>
      refine ⟨?_, ?_, ?_, ?_, ?_, ?_, ?_, ?_, ?_, trivial⟩
      · intro k z v hk hst hag hdep
        refine .inl ⟨rfl, fun K hK => ?_⟩
        have d0 : z.tmps.getD 0 undef = .pointer (some ⟨c, 0, none⟩) := hag.2.2 0 (by kernel_rfl)
        have e0 := d0
        rw [Array.getD_eq_getD_getElem?] at e0
        have HSt := Lib.hid hst
        clear hdep hag hst
        go_simp
        exact hK _ _ trivial rfl HSt.out
      · intro k z v hk hst hag hdep
        refine .inl ⟨rfl, fun K hK => ?_⟩
        have d24 : z.tmps.getD 24 undef = .pointer (some ⟨c, 0, none⟩) := hdep { on := 0, ground := .data } (by simp) rfl _ _ rfl rfl
        have e24 := d24
        rw [Array.getD_eq_getD_getElem?] at e24
        have HSt := Lib.hid hst
        clear hdep hag hst
        go_simp
        exact hK _ _ trivial rfl HSt.out
      · intro k z v hk hst hag hdep
        refine .inl ⟨rfl, fun K hK => ?_⟩
        have d25 : z.tmps.getD 25 undef = .pointer (some ⟨c, 0, none⟩) := hdep { on := 1, ground := .data } (by simp) rfl _ _ rfl rfl
        have e25 := d25
        rw [Array.getD_eq_getD_getElem?] at e25
        have HSt := Lib.hid hst
        clear hdep hag hst
        go_simp
        exact hK _ _ trivial rfl HSt.out
      · intro k z v hk hst hag hdep
        refine .inl ⟨rfl, fun K hK => ?_⟩
        have d26 : z.tmps.getD 26 undef = .pointer (some ⟨c, 1, none⟩) := hdep { on := 2, ground := .data } (by simp) rfl _ _ rfl rfl
        have e26 := d26
        rw [Array.getD_eq_getD_getElem?] at e26
        obtain rfl : k = 0 := by have : k ≤ 0 := hk; omega
        have hq : EqD w1 v := hst
        have l0 := (hq.cell _).trans HC1.out
        have HSt := Lib.hid hst
        clear hdep hag hst hk hq
        go_simp
        exact hK _ _ trivial rfl HSt.out
      · intro k z v hk hst hag hdep
        refine .inl ⟨rfl, fun K hK => ?_⟩
        have d1 : z.tmps.getD 1 undef = .pointer (some ⟨xb, 0, none⟩) := hag.2.2 1 (by kernel_rfl)
        have e1 := d1
        rw [Array.getD_eq_getD_getElem?] at e1
        have HSt := Lib.hid hst
        clear hdep hag hst
        go_simp
        exact hK _ _ trivial rfl HSt.out
      · intro k z v hk hst hag hdep
        refine .inl ⟨rfl, fun K hK => ?_⟩
        have d28 : z.tmps.getD 28 undef = .pointer (some ⟨xb, 0, none⟩) := hdep { on := 4, ground := .data } (by simp) rfl _ _ rfl rfl
        have e28 := d28
        rw [Array.getD_eq_getD_getElem?] at e28
        have HSt := Lib.hid hst
        clear hdep hag hst
        go_simp
        exact hK _ _ trivial rfl HSt.out
      · intro k z v hk hst hag hdep
        refine .inl ⟨rfl, fun K hK => ?_⟩
        have d29 : z.tmps.getD 29 undef = .pointer (some ⟨xb, 0, none⟩) := hdep { on := 5, ground := .data } (by simp) rfl _ _ rfl rfl
        have e29 := d29
        rw [Array.getD_eq_getD_getElem?] at e29
        have HSt := Lib.hid hst
        clear hdep hag hst
        go_simp
        exact hK _ _ trivial rfl HSt.out
      · intro k z v hk hst hag hdep
        refine .inl ⟨rfl, fun K hK => ?_⟩
        have d30 : z.tmps.getD 30 undef = .pointer (some ⟨xb, 0, none⟩) := hdep { on := 6, ground := .data } (by simp) rfl _ _ rfl rfl
        have e30 := d30
        rw [Array.getD_eq_getD_getElem?] at e30
        obtain rfl : k = 0 := by have : k ≤ 0 := hk; omega
        have hq : EqD w1 v := hst
        have l0 := (hq.cell _).trans HX0.out
        have HSt := Lib.hid hst
        clear hdep hag hst hk hq
        go_simp
        exact hK _ _ trivial rfl HSt.out
      · intro z v hst hag hdep
        refine ⟨rfl, fun K hK => ?_⟩
        have d27 : z.tmps.getD 27 undef = .map (some m) := hdep { on := 3, ground := .data } (by simp) rfl _ _ rfl rfl
        have e27 := d27
        rw [Array.getD_eq_getD_getElem?] at e27
        have d31 : z.tmps.getD 31 undef = .int .i64 i := hdep { on := 7, ground := .data } (by simp) rfl _ _ rfl rfl
        have e31 := d31
        rw [Array.getD_eq_getD_getElem?] at e31
        have hq : EqD w1 v := hst
        obtain ⟨w9, hrun, hmp, hg⟩ := (HMp.out.of_block (hq.block m)).del HI.out HIn.out 0
        have HSt : Hid (MapUp w1 m (entN ls ++ entN cs) w9) := Lib.hid ⟨v, hq, hg, hmp⟩
        clear hdep hag hst hq hmp hg
        go_simp
        exact hK undef _ trivial trivial HSt.out
    case hdone =>
      intro z w3 hst hag hok
      have hu : MapUp w1 m (entN ls ++ entN cs) w3 := hst
      obtain ⟨u0, hu1, hu2, hu3⟩ := hu
      have hend := HCh.out.left HA.out HB.out rfl ((HQ1.out.trans hu1).grown hu2) hu3
      have HEnd := Lib.hid hend
      clear hst hu1 hu2 hu3 hend
      obtain ⟨uu, hu, hzz⟩ := Go.Proofs.Ytgagkmlkoeceiaa.R.agree_frame [24, 25, 26, 27, 28, 29, 30, 31] rfl hag

      subst hzz
      simp only [List.foldl_cons, List.foldl_nil]
      rw []
      clear  hu hag hok
      try dsimp only [Exit.then]
      simp only [List.setIfInBounds_toArray, List.set_cons_succ, List.set_cons_zero]
      generalize uu 24 = u24', uu 25 = u25', uu 26 = u26', uu 27 = u27', uu 28 = u28', uu 29 = u29', uu 30 = u30', uu 31 = u31'
      clear uu
      go_wp2_with fail
      go_end0
      exact ⟨rfl, HEnd.out⟩
end Go.Proofs.Ytgagkmlkoeceiaa.C
