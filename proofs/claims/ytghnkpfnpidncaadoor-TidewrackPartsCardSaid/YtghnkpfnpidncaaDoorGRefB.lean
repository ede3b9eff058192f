/- The document's bytes, Check and Pack of a datagram. -/
import Derived.Test.YtghnkpfnpidncaaDoorGOwn
import Derived.Test.YtghnkpfnpidncaaDoorGPackR
import Derived.Test.YtghnkpfnpidncaaDoorIRefw
import Derived.Test.YtghnkpfnpidncaaDoorSRef
namespace Go.Proofs.YtghnkpfnpidncaaDoor.G
open Go.RowKit Go.Proofs.YtghnkpfnpidncaaDoor.I

/-- The document's bytes of a number. -/
def numT (n : Int) : ByteArray := ⟨(digs (clipN n)).toArray⟩
theorem numT_list (n : Int) : (numT n).data.toList = digs (clipN n) := by simp [numT]
theorem numT_size (n : Int) : (numT n).size = (digs (clipN n)).length := by rw [← numT_list]; rfl
theorem numT_nine (n : Int) : ((numT n).size : Int) ≤ 9 := by rw [numT_size]; have := nine n; omega
theorem refnum_eq (n : Int) (w : World) : Calls Tryd.prog 54 #[.int .i64 n] w fun e w' => e = .returned (.string (numT n)) ∧ Below w.heap.size w w' :=
  (refnum_any n w).mono fun _ _ ⟨t, h1, h2, h3⟩ => ⟨by rw [h1, show t = numT n from ByteArray.ext (Array.toList_inj.1 (h2.trans (numT_list n).symm))], h3⟩
def BytesOk (B : Nat) (e k : Int) (a : Option Addr) (len cap : Nat) : Nat → Value → World → Prop
  | 0, u, _ => u = .pointer (some ⟨B, 0, none⟩)
  | 1, u, _ => u = .int .i64 e
  | 2, u, _ => u = .string (numT e)
  | 3, u, _ => u = .pointer (some ⟨B, 1, none⟩)
  | 4, u, _ => u = .int .i64 k
  | 5, u, _ => u = .string (numT k)
  | 6, u, _ => u = .string (numT e ++ numT k)
  | 7, u, _ => u = .pointer (some ⟨B, 2, none⟩)
  | 8, u, _ => u = .slice a len cap
  | 9, u, _ => u = .int .i64 (len : Int)
  | 10, u, _ => u = .string (numT (len : Int))
  | 11, u, _ => u = .string (numT e ++ numT k ++ numT (len : Int))
  | _, _, _ => True
theorem BytesOk.keeps {B : Nat} {e k : Int} {a : Option Addr} {len cap : Nat} (i : Nat) (u : Value) (w w' : World) (h : BytesOk B e k a len cap i u w) : BytesOk B e k a len cap i u w' := by
  unfold BytesOk at h ⊢
  split <;> first | exact True.intro | exact h | skip
theorem frame36 (z : Act) (hs : z.tmps.size = 36) (hd : z.defers = []) : ∃ u : Nat → Value, (∀ i, u i = z.tmps.getD i undef) ∧ z = { tmps := #[u 0, u 1, u 2, u 3, u 4, u 5, u 6, u 7, u 8, u 9, u 10, u 11, u 12, u 13, u 14, u 15, u 16, u 17, u 18, u 19, u 20, u 21, u 22, u 23, u 24, u 25, u 26, u 27, u 28, u 29, u 30, u 31, u 32, u 33, u 34, u 35], defers := [] } := by
  refine ⟨fun i => z.tmps.getD i undef, fun _ => rfl, ?_⟩
  obtain ⟨tmps, ds⟩ := z
  simp only at hd hs
  subst hd
  have hz : tmps = ((List.range 36).map fun i => tmps.getD i undef).toArray := by
    apply Array.ext
    · simp [hs]
    · intro i h1 h2
      simp [Array.getD_eq_getD_getElem?, h1]
  exact congrArg (fun t => ({ tmps := t, defers := [] } : Act)) hz

set_option maxRecDepth 100000 in
set_option maxHeartbeats 4000000 in
theorem refbytes_any (e k : Int) (a : Option Addr) (len cap : Nat) (d : ByteArray) (zs : List Int) (w : World) (h : NumsIn a len zs w) (h64 : (len : Int) ≤ 64) (hd : (d.size : Int) ≤ 1000) :
    Calls Tryd.prog 32 #[gramV e k a len cap d] w fun en w' => ∃ t : ByteArray, en = .returned (.string t) ∧ t.data.toList = bodyS e k zs d ++ S.tl (S.sumOf (bodyS e k zs d)) ∧ Below w.heap.size w w' := by
  unfold gramV
  obtain ⟨w1, hw1⟩ : ∃ w1, w.alloc (.cells #[.int .i64 e, .int .i64 k, .slice a len cap, .string d] 24) = w1 := ⟨_, rfl⟩
  have hb1 : Below w.heap.size w w1 := by rw [← hw1]; exact (Below.refl _ _).alloc (Nat.le_refl _) _
  have hbox : w1.heap[w.heap.size]? = some (.cells #[.int .i64 e, .int .i64 k, .slice a len cap, .string d] 24 (0, 0)) := by rw [← hw1]; exact World.alloc_heap_new _ _
  obtain ⟨B, hB⟩ : ∃ B, w.heap.size = B := ⟨_, rfl⟩
  have hBl : B < w1.heap.size := by rw [← hB]; exact (Array.getElem?_eq_some_iff.1 hbox).1
  have HB1 := Lib.hid hb1
  have HN := Lib.hid (h.below hb1)
  have HLen := Lib.hid h.1
  rw [hB] at hbox
  have HBox := Lib.hid hbox
  have HBl := Lib.hid hBl
  have c0 : w1.cell? ⟨B, 0, none⟩ = some (.int .i64 e) := by rw [Lib.cell_of_heap hbox]; rfl
  have c1 : w1.cell? ⟨B, 1, none⟩ = some (.int .i64 k) := by rw [Lib.cell_of_heap hbox]; rfl
  have c2 : w1.cell? ⟨B, 2, none⟩ = some (.slice a len cap) := by rw [Lib.cell_of_heap hbox]; rfl
  have L0 : Hid (((numT e).size : Int) ≤ 9) := Lib.hid (numT_nine _)
  have L1 : Hid (((numT k).size : Int) ≤ 9) := Lib.hid (numT_nine _)
  have L2 : Hid (((numT (len : Int)).size : Int) ≤ 9) := Lib.hid (numT_nine _)
  have L01 : Hid (((numT e ++ numT k).size : Int) ≤ 18) := Lib.hid (by have := L0.out; have := L1.out; simp; omega)
  obtain ⟨D0, hD0⟩ : ∃ D0, numT e ++ numT k ++ numT (len : Int) = D0 := ⟨_, rfl⟩
  have HD0 : Hid (D0.data.toList = numsOf [e, k, (zs.length : Int)]) := Lib.hid (by
    rw [← hD0, append_list, append_list, numT_list, numT_list, numT_list, h.1]
    simp [numsOf])
  have HDs : Hid ((D0.size : Int) ≤ 27) := Lib.hid (by rw [← hD0]; have := L0.out; have := L1.out; have := L2.out; simp; omega)
  have HDe := Lib.hid hD0
  clear hb1 hbox hBl h hD0
  go_enter Tryd.func32, Tryd.ntmps32
  go_upto_region 1 with fail
  clear hw1 hB
  refine R.wp_region_tail 12 (by kernel_rfl) (fun u => Below w1.heap.size w1 u) (fun u v => Below u.heap.size u v) (BytesOk B e k a len cap) (by rfl) (by kernel_rfl) (by decide) (by kernel_rfl) (by kernel_rfl) (by kernel_rfl) ?hC ?hOk ?hop ?hdone ((Below.refl _ _).drew)
  case hC => exact fun u v h1 h2 => h1.trans (h2.mono h1.size)
  case hOk => exact fun i u w w' h _ => BytesOk.keeps i u w w' h
  case hop =>
    refine ⟨?_, ?_, ?_, ?_, ?_, ?_, ?_, ?_, ?_, ?_, ?_, ?_, trivial⟩
    · intro z v hz hag hdep
      refine .inl ⟨rfl, fun K hK => ?_⟩
      have d1 : z.tmps.getD 1 undef = .pointer (some ⟨B, 0, none⟩) := hag.2.2 1 (by kernel_rfl)
      have e1 := d1
      rw [Array.getD_eq_getD_getElem?] at e1
      clear hdep hag c0 c1 c2 hz
      go_simp
      exact hK _ _ (Below.refl _ _) rfl
    · intro z v hz hag hdep
      refine .inl ⟨rfl, fun K hK => ?_⟩
      have d6 : z.tmps.getD 6 undef = .pointer (some ⟨B, 0, none⟩) := hdep { on := 0, ground := .data } (by simp) rfl _ _ rfl rfl
      have e6 := d6
      rw [Array.getD_eq_getD_getElem?] at e6
      have hc : v.cell? ⟨B, 0, none⟩ = some (.int .i64 e) := (hz.cell (p := ⟨B, 0, none⟩) HBl.out).trans c0
      clear hdep hag c0 c1 c2 hz
      go_simp
      exact hK _ _ (Below.refl _ _) rfl
    · intro z v hz hag hdep
      refine .inl ⟨rfl, fun K hK => ?_⟩
      have d7 : z.tmps.getD 7 undef = .int .i64 e := hdep { on := 1, ground := .data } (by simp) rfl _ _ rfl rfl
      have e7 := d7
      rw [Array.getD_eq_getD_getElem?] at e7
      clear hdep hag c0 c1 c2 hz
      go_simp
      refine (refnum_eq (e) _).mono ?_
      rintro en w' ⟨rfl, hb⟩
      exact hK _ _ hb rfl
    · intro z v hz hag hdep
      refine .inl ⟨rfl, fun K hK => ?_⟩
      have d1 : z.tmps.getD 1 undef = .pointer (some ⟨B, 0, none⟩) := hag.2.2 1 (by kernel_rfl)
      have e1 := d1
      rw [Array.getD_eq_getD_getElem?] at e1
      clear hdep hag c0 c1 c2 hz
      go_simp
      exact hK _ _ (Below.refl _ _) rfl
    · intro z v hz hag hdep
      refine .inl ⟨rfl, fun K hK => ?_⟩
      have d9 : z.tmps.getD 9 undef = .pointer (some ⟨B, 1, none⟩) := hdep { on := 3, ground := .data } (by simp) rfl _ _ rfl rfl
      have e9 := d9
      rw [Array.getD_eq_getD_getElem?] at e9
      have hc : v.cell? ⟨B, 1, none⟩ = some (.int .i64 k) := (hz.cell (p := ⟨B, 1, none⟩) HBl.out).trans c1
      clear hdep hag c0 c1 c2 hz
      go_simp
      exact hK _ _ (Below.refl _ _) rfl
    · intro z v hz hag hdep
      refine .inl ⟨rfl, fun K hK => ?_⟩
      have d10 : z.tmps.getD 10 undef = .int .i64 k := hdep { on := 4, ground := .data } (by simp) rfl _ _ rfl rfl
      have e10 := d10
      rw [Array.getD_eq_getD_getElem?] at e10
      clear hdep hag c0 c1 c2 hz
      go_simp
      refine (refnum_eq (k) _).mono ?_
      rintro en w' ⟨rfl, hb⟩
      exact hK _ _ hb rfl
    · intro z v hz hag hdep
      refine .inl ⟨rfl, fun K hK => ?_⟩
      have d8 : z.tmps.getD 8 undef = .string (numT e) := hdep { on := 2, ground := .data } (by simp) rfl _ _ rfl rfl
      have e8 := d8
      rw [Array.getD_eq_getD_getElem?] at e8
      have d11 : z.tmps.getD 11 undef = .string (numT k) := hdep { on := 5, ground := .data } (by simp) rfl _ _ rfl rfl
      have e11 := d11
      rw [Array.getD_eq_getD_getElem?] at e11
      have l0 := L0.out
      have l1 := L1.out
      clear hdep hag c0 c1 c2 hz
      go_simp
      rw [if_neg (by omega)]
      exact hK _ _ (Below.refl _ _) rfl
    · intro z v hz hag hdep
      refine .inl ⟨rfl, fun K hK => ?_⟩
      have d1 : z.tmps.getD 1 undef = .pointer (some ⟨B, 0, none⟩) := hag.2.2 1 (by kernel_rfl)
      have e1 := d1
      rw [Array.getD_eq_getD_getElem?] at e1
      clear hdep hag c0 c1 c2 hz
      go_simp
      exact hK _ _ (Below.refl _ _) rfl
    · intro z v hz hag hdep
      refine .inl ⟨rfl, fun K hK => ?_⟩
      have d13 : z.tmps.getD 13 undef = .pointer (some ⟨B, 2, none⟩) := hdep { on := 7, ground := .data } (by simp) rfl _ _ rfl rfl
      have e13 := d13
      rw [Array.getD_eq_getD_getElem?] at e13
      have hc : v.cell? ⟨B, 2, none⟩ = some (.slice a len cap) := (hz.cell (p := ⟨B, 2, none⟩) HBl.out).trans c2
      clear hdep hag c0 c1 c2 hz
      go_simp
      exact hK _ _ (Below.refl _ _) rfl
    · intro z v hz hag hdep
      refine .inl ⟨rfl, fun K hK => ?_⟩
      have d14 : z.tmps.getD 14 undef = .slice a len cap := hdep { on := 8, ground := .data } (by simp) rfl _ _ rfl rfl
      have e14 := d14
      rw [Array.getD_eq_getD_getElem?] at e14
      clear hdep hag c0 c1 c2 hz
      go_simp
      exact hK _ _ (Below.refl _ _) rfl
    · intro z v hz hag hdep
      refine .inl ⟨rfl, fun K hK => ?_⟩
      have d15 : z.tmps.getD 15 undef = .int .i64 (len : Int) := hdep { on := 9, ground := .data } (by simp) rfl _ _ rfl rfl
      have e15 := d15
      rw [Array.getD_eq_getD_getElem?] at e15
      clear hdep hag c0 c1 c2 hz
      go_simp
      refine (refnum_eq ((len : Int)) _).mono ?_
      rintro en w' ⟨rfl, hb⟩
      exact hK _ _ hb rfl
    · intro z v hz hag hdep
      refine .inl ⟨rfl, fun K hK => ?_⟩
      have d12 : z.tmps.getD 12 undef = .string (numT e ++ numT k) := hdep { on := 6, ground := .data } (by simp) rfl _ _ rfl rfl
      have e12 := d12
      rw [Array.getD_eq_getD_getElem?] at e12
      have d16 : z.tmps.getD 16 undef = .string (numT (len : Int)) := hdep { on := 10, ground := .data } (by simp) rfl _ _ rfl rfl
      have e16 := d16
      rw [Array.getD_eq_getD_getElem?] at e16
      have l0 := L0.out
      have l1 := L1.out
      have l2 := L2.out
      clear hdep hag c0 c1 c2 hz
      go_simp
      rw [if_neg (by omega)]
      exact hK _ _ (Below.refl _ _) rfl
  case hdone =>
    intro z v hz hag hok hno
    clear hno
    have d17 : z.tmps.getD 17 undef = .string (numT e ++ numT k ++ numT (len : Int)) := hok 11 _ 17 (by decide) rfl rfl
    rw [HDe.out] at d17
    have d1 : z.tmps.getD 1 undef = .pointer (some ⟨B, 0, none⟩) := hag.2.2 1 (by kernel_rfl)
    have d2 : z.tmps.getD 2 undef = .string ⟨#[]⟩ := hag.2.2 2 (by kernel_rfl)
    obtain ⟨u, hu, hzz⟩ := frame36 z hag.2.1 hag.1
    have e1 : u 1 = .pointer (some ⟨B, 0, none⟩) := (hu 1).trans d1
    have e2 : u 2 = .string ⟨#[]⟩ := (hu 2).trans d2
    have e17 : u 17 = .string D0 := (hu 17).trans d17
    subst hzz
    have HC := Lib.hid hz
    have k2 := (hz.cell (p := ⟨B, 2, none⟩) HBl.out).trans c2
    have HSl : Hid (∀ t : ByteArray, (t.size : Int) ≤ 100000 → ∀ v, Calls Tryd.prog 55 #[.string t] v fun e w' => (∃ u : ByteArray, e = .returned (.string u) ∧ (u.size : Int) ≤ t.size + 4 ∧ u.data.toList = t.data.toList ++ S.tl (S.sumOf t.data.toList)) ∧ Below v.heap.size v w') := Lib.hid fun t ht v => S.refseal_any t (by omega) v
    have HTx : Hid (∀ v, Calls Tryd.prog 56 #[.string d] v fun e w' => ∃ t : ByteArray, e = .returned (.string t) ∧ t.data.toList = textB d ∧ Below v.heap.size v w') := Lib.hid fun v => reftextw_any d hd v
    have HD := Lib.hid hd
    have hds := HDs.out
    have HNw := HN
    clear d17 d1 d2 hag hok hu hz c0 c1 c2 hd
    rw [e1, e2, e17]
    clear e1 e2 e17
    dsimp only [List.drop]
    go_wp2
    go_loopw [3, 5, 21] (fun s _ i wr => ∃ j : Nat, ∃ M : ByteArray, j ≤ len ∧ i = .int .i64 j ∧ s = .string M ∧ (M.size : Int) ≤ 27 + 9 * j ∧ Hid (M.data.toList = numsOf [e, k, (zs.length : Int)] ++ numsOf (zs.take j) ∧ Below w1.heap.size w1 wr)) (fun _ _ i _ => len - (intOf i).toNat)
    case atStart => exact ⟨0, D0, by omega, by go_num, rfl, by omega, Lib.hid ⟨by rw [HD0.out]; simp [numsOf], HC.out⟩⟩
    case round =>
      obtain ⟨j, M, hj, rfl, rfl, hM, hF⟩ := hrel
      have HNv := Lib.hid (HNw.out.below hF.out.2)
      by_cases hlt : j < len
      · have hjz : j < zs.length := by rw [← HLen.out]; exact hlt
        obtain ⟨b, off, rfl, hbl, hI⟩ := HNv.out.2.resolve_left (by intro e; rw [e] at hjz; simp at hjz)
        have hc := hI j hjz
        obtain ⟨x, hx⟩ : ∃ x, zs.getD j 0 = x := ⟨_, rfl⟩
        have hst := numsOf_snoc zs j hjz
        rw [hx] at hc hst
        have hx9 := numT_nine x
        have HSt := Lib.hid hst
        have HF := Lib.hid hF.out
        clear hx hst hI hjz hbl hF
        go_wp2_with fail
        refine (refnum_eq _ _).mono ?_
        rintro e' w2 ⟨rfl, hb2⟩
        have HB2 : Hid (Below w1.heap.size w1 w2) := Lib.hid (below_step HF.out.2 hb2)
        clear hb2
        go_wp2
        go_roundw
        case rel => exact ⟨j + 1, M ++ numT x, by omega, by go_num, rfl, by simp; omega, Lib.hid ⟨by rw [append_list, HF.out.1, HSt.out, numT_list, List.append_assoc], HB2.out⟩⟩
        case measure => simp [intOf]; omega
      · obtain rfl : j = len := by omega
        have k3 := (hF.out.2.cell (p := ⟨B, 3, none⟩) HBl.out).trans (show w1.cell? ⟨B, 3, none⟩ = some (.string d) by rw [Lib.cell_of_heap HBox.out]; rfl)
        have hM1 : M.data.toList = numsOf [e, k, (zs.length : Int)] ++ numsOf zs := by rw [hF.out.1, HLen.out, List.take_length]
        have HM1 := Lib.hid hM1
        have HF := Lib.hid hF.out.2
        clear hF hM1
        go_wp2_with fail
        refine (HTx.out _).mono ?_
        rintro e' w2 ⟨t, rfl, htl, hb2⟩
        have hts : (t.size : Int) ≤ 1009 := by
          have h1 : t.size = (textB d).length := by rw [← htl]; rfl
          have h2 := textB_len d
          have h3 := HD.out
          omega
        have HB2 : Hid (Below w1.heap.size w1 w2) := Lib.hid (below_step HF.out hb2)
        have HS2 := Lib.hid (HSl.out (M ++ t) (by simp; omega) w2)
        have HMt : Hid ((M ++ t).data.toList = bodyS e k zs d) := Lib.hid (by rw [append_list, HM1.out, htl]; rfl)
        clear hb2 htl
        go_wp2_with fail
        refine HS2.out.mono ?_
        rintro e' w3 ⟨⟨u3, rfl, _, hul⟩, hb3⟩
        rw [HMt.out] at hul
        have HB3 : Hid (Below w1.heap.size w1 w3) := Lib.hid (below_step HB2.out hb3)
        have HUl := Lib.hid hul
        clear hb3 hul
        go_wp2
        go_ret
        exact ⟨u3, rfl, HUl.out, HB1.out.trans (HB3.out.mono HB1.out.size)⟩
end Go.Proofs.YtghnkpfnpidncaaDoor.G
