/- GramApart: datagrams that aren't alike have other bytes. No condition. -/
import Derived.Test.YtghnkpfnpidncaaDoorGTold
namespace Go.Proofs.YtghnkpfnpidncaaDoor.G
open Go.RowKit Go.Proofs.YtghnkpfnpidncaaDoor.I

def ApartOk (gv hv : Value) (p q : List UInt8) : Nat → Value → World → Prop
  | 0, u, _ => u = gv
  | 1, u, w => ∃ s : ByteArray, u = .string s ∧ s.data.toList = p
  | 2, u, _ => u = hv
  | 3, u, w => ∃ s : ByteArray, u = .string s ∧ s.data.toList = q
  | 4, u, w => ∃ s : ByteArray, u = .string s ∧ s.data.toList = p
  | _, _, _ => True
theorem frame56 (z : Act) (hs : z.tmps.size = 56) (hd : z.defers = []) : ∃ u : Nat → Value, (∀ i, u i = z.tmps.getD i undef) ∧ z = { tmps := #[u 0, u 1, u 2, u 3, u 4, u 5, u 6, u 7, u 8, u 9, u 10, u 11, u 12, u 13, u 14, u 15, u 16, u 17, u 18, u 19, u 20, u 21, u 22, u 23, u 24, u 25, u 26, u 27, u 28, u 29, u 30, u 31, u 32, u 33, u 34, u 35, u 36, u 37, u 38, u 39, u 40, u 41, u 42, u 43, u 44, u 45, u 46, u 47, u 48, u 49, u 50, u 51, u 52, u 53, u 54, u 55], defers := [] } := by
  refine ⟨fun i => z.tmps.getD i undef, fun _ => rfl, ?_⟩
  obtain ⟨tmps, ds⟩ := z
  simp only at hd hs
  subst hd
  have hz : tmps = ((List.range 56).map fun i => tmps.getD i undef).toArray := by
    apply Array.ext
    · simp [hs]
    · intro i h1 h2
      simp [Array.getD_eq_getD_getElem?, h1]
  exact congrArg (fun t => ({ tmps := t, defers := [] } : Act)) hz
theorem ApartOk.keeps {gv hv : Value} {p q : List UInt8} (i : Nat) (u : Value) (w w' : World) (h : ApartOk gv hv p q i u w) : ApartOk gv hv p q i u w' := by
  unfold ApartOk at h ⊢
  split <;> first | exact True.intro | exact h
theorem pack_empty {e k : Int} {zs : List Int} {d s : ByteArray} (hs : s.data.toList = packS e k zs d) : s.toList.isEmpty = decide (checkS e k zs d.size ≠ 0) := by
  by_cases h : checkS e k zs d.size = 0
  · rw [isEmpty_no, decide_eq_false (by simpa using h)]
    rw [hs, pack_ok h]
    intro e0
    have := congrArg List.length e0
    simp [S.tl] at this
  · rw [isEmpty_of (hs.trans (pack_no h)), decide_eq_true h]
theorem isB_iff {e k e' k' : Int} {zs ys : List Int} {d d' : ByteArray} : isB e k zs d e' k' ys d' = true ↔ e = e' ∧ k = k' ∧ zs = ys ∧ d.data.toList = d'.data.toList := by
  unfold isB
  simp only [Bool.and_eq_true, decide_eq_true_eq, and_assoc]
theorem bytes_eq {a b : ByteArray} (h : a.data.toList = b.data.toList) : a = b := ByteArray.ext (Array.toList_inj.1 h)
set_option maxRecDepth 100000 in
set_option maxHeartbeats 4000000 in
theorem apart_walk (e k e' k' : Int) (a b : Option Addr) (len cap len' cap' : Nat) (d d' : ByteArray) (zs zs' : List Int) (w : World) (hT : S.Tab w) (h : NumsIn a len zs w) (h' : NumsIn b len' zs' w) (hlc : len ≤ cap) (hlc' : len' ≤ cap') (hcap : (cap : Int) ≤ 9223372036854775807) (hcap' : (cap' : Int) ≤ 9223372036854775807) (hd : (d.size : Int) ≤ 9223372036854775807) (hd' : (d'.size : Int) ≤ 9223372036854775807) :
    Calls Tryd.prog 7 #[gramV e k a len cap d, gramV e' k' b len' cap' d'] w fun en w' => en = .returned (.bool true) ∧ Below w.heap.size w w' := by
  obtain ⟨w0, hw0⟩ : ∃ w0, w.alloc (.cells #[.int .i64 e, .int .i64 k, .slice a len cap, .string d] 24) = w0 := ⟨_, rfl⟩
  obtain ⟨w1, hw1⟩ : ∃ w1, w0.alloc (.cells #[.int .i64 e', .int .i64 k', .slice b len' cap', .string d'] 24) = w1 := ⟨_, rfl⟩
  have hb0 : Below w.heap.size w w0 := by rw [← hw0]; exact (Below.refl _ _).alloc (Nat.le_refl _) _
  have hb1 : Below w.heap.size w w1 := by rw [← hw1]; exact hb0.alloc hb0.size _
  obtain ⟨B, hB⟩ : ∃ B, w.heap.size = B := ⟨_, rfl⟩
  have hsz0 : w0.heap.size = B + 1 := by rw [← hw0, ← hB]; simp
  have hx0 : QBlk 24 B (.int .i64 e) (.int .i64 k) (.slice a len cap) (.string d) w0 := by rw [← hw0, ← hB]; exact World.alloc_heap_new _ _
  have hx1 : QBlk 24 B (.int .i64 e) (.int .i64 k) (.slice a len cap) (.string d) w1 := by rw [← hw1]; exact (Below.heap_alloc _ _ _ hx0.lt).trans hx0
  have hy1 : QBlk 24 (B + 1) (.int .i64 e') (.int .i64 k') (.slice b len' cap') (.string d') w1 := by rw [← hw1, ← hsz0]; exact World.alloc_heap_new _ _
  have HN : Hid (∀ u, Below w1.heap.size w1 u → NumsIn a len zs u) := Lib.hid fun u hu => (h.below hb1).below hu
  have HN' : Hid (∀ u, Below w1.heap.size w1 u → NumsIn b len' zs' u) := Lib.hid fun u hu => (h'.below hb1).below hu
  have HT1 := Lib.hid (S.tab_of hT hb1)
  have HB1 := Lib.hid hb1
  have HX1 := Lib.hid hx1
  have HY1 := Lib.hid hy1
  obtain ⟨M, hM⟩ : ∃ M, M = min len 66 := ⟨_, rfl⟩
  obtain ⟨M', hM'⟩ : ∃ M', M' = min len' 66 := ⟨_, rfl⟩
  obtain ⟨ys, hys⟩ : ∃ ys, ys = zs.take 66 := ⟨_, rfl⟩
  obtain ⟨ys', hys'⟩ : ∃ ys', ys' = zs'.take 66 := ⟨_, rfl⟩
  obtain ⟨t, ht⟩ : ∃ t, cutT d = t := ⟨_, rfl⟩
  obtain ⟨t', ht'⟩ : ∃ t', cutT d' = t' := ⟨_, rfl⟩
  have hts : (t.size : Int) ≤ 200 := by rw [← ht]; exact cutT_size d
  have hts' : (t'.size : Int) ≤ 200 := by rw [← ht']; exact cutT_size d'
  have htl : t.data.toList = d.data.toList.take 200 := by rw [← ht]; exact cutT_list d
  have htl' : t'.data.toList = d'.data.toList.take 200 := by rw [← ht']; exact cutT_list d'
  have HOwn : Hid (∀ u, Below w1.heap.size w1 u → Calls Tryd.prog 10 #[gramV e k a len cap d] u fun en w' => ∃ a1 c1 a2 c2, en = .returned (.tuple #[gramV e k a1 M c1 t, gramV e k a2 M c2 t]) ∧ NumsAt a1 M ys w' ∧ NumsAt a2 M ys w' ∧ Below u.heap.size u w') := Lib.hid fun u hu => own_any e k a len cap M d t zs ys u (HN.out u hu) hlc hd hcap htl hM hys
  have HOwn' : Hid (∀ u, Below w1.heap.size w1 u → Calls Tryd.prog 10 #[gramV e' k' b len' cap' d'] u fun en w' => ∃ a1 c1 a2 c2, en = .returned (.tuple #[gramV e' k' a1 M' c1 t', gramV e' k' a2 M' c2 t']) ∧ NumsAt a1 M' ys' w' ∧ NumsAt a2 M' ys' w' ∧ Below u.heap.size u w') := Lib.hid fun u hu => own_any e' k' b len' cap' M' d' t' zs' ys' u (HN'.out u hu) hlc' hd' hcap' htl' hM' hys'
  have HM : Hid (M ≤ 66) := Lib.hid (by omega)
  have HM' : Hid (M' ≤ 66) := Lib.hid (by omega)
  have HTs := Lib.hid hts
  have HTs' := Lib.hid hts'
  unfold gramV at *
  subst hw0
  clear hT hb0 hb1 hx0 hx1 hy1 hsz0 h h' hlc hlc' hcap hcap' hd hd' hts hts' htl htl' hM hM' hys hys' ht ht'
  go_enter Tryd.func7, Tryd.ntmps7
  go_wp2_with fail
  refine (awake_any w1 HT1.out).mono ?_
  rintro en w2 ⟨rfl, hb2⟩
  have HOw := Lib.hid (HOwn.out w2 hb2)
  have hx2 := HX1.out.below hb2
  have c0 := hx2.c0
  have c1 := hx2.c1
  have c2 := hx2.c2
  have c3 := hx2.c3
  have HB2 := Lib.hid hb2
  clear hb2 hx2 hw1
  go_wp2_with fail
  refine HOw.out.mono ?_
  rintro en w3 ⟨a1, c1', a2, c2', rfl, hn1, hn2, hb3⟩
  obtain ⟨G, hG⟩ : ∃ G, w3.heap.size = G := ⟨_, rfl⟩
  obtain ⟨w3', hw3⟩ : ∃ w3', w3.alloc (.cells #[.int .i64 e, .int .i64 k, .slice a1 M c1', .string t] 26) = w3' := ⟨_, rfl⟩
  obtain ⟨w4, hw4⟩ : ∃ w4, w3'.alloc (.cells #[.int .i64 e, .int .i64 k, .slice a2 M c2', .string t] 24) = w4 := ⟨_, rfl⟩
  have hsz' : w3'.heap.size = G + 1 := by rw [← hw3, ← hG]; simp
  have hb3' : Below w3.heap.size w3 w3' := by rw [← hw3]; exact (Below.refl _ _).alloc (Nat.le_refl _) _
  have hb4 : Below w3.heap.size w3 w4 := by rw [← hw4]; exact hb3'.alloc hb3'.size _
  have g3 : QBlk 26 G (.int .i64 e) (.int .i64 k) (.slice a1 M c1') (.string t) w3' := by rw [← hw3, ← hG]; exact World.alloc_heap_new _ _
  have HG4 : Hid (QBlk 26 G (.int .i64 e) (.int .i64 k) (.slice a1 M c1') (.string t) w4) := Lib.hid (by rw [← hw4]; exact (Below.heap_alloc _ _ _ g3.lt).trans g3)
  have HGY4 : Hid (QBlk 24 (G + 1) (.int .i64 e) (.int .i64 k) (.slice a2 M c2') (.string t) w4) := Lib.hid (by rw [← hw4, ← hsz']; exact World.alloc_heap_new _ _)
  have hB4 : Below w1.heap.size w1 w4 := (below_step HB2.out hb3).trans (hb4.mono (below_step HB2.out hb3).size)
  have HB4 := Lib.hid hB4
  have HNA := Lib.hid (hn1.below hb4)
  have HNB := Lib.hid (hn2.below hb4)
  have HOw' := Lib.hid (HOwn'.out w4 hB4)
  have hy4 := HY1.out.below hB4
  have c0 := hy4.c0
  have c1 := hy4.c1
  have c2 := hy4.c2
  have c3 := hy4.c3
  clear hn1 hn2 hb3 hb3' hb4 g3 hB4 hsz' HOwn HOw hy4
  subst hw3
  go_wp2_with fail
  refine HOw'.out.mono ?_
  clear hw4
  rintro en w5 ⟨b1, d1', b2, d2', rfl, hn1, hn2, hb5⟩
  obtain ⟨H, hH⟩ : ∃ H, w5.heap.size = H := ⟨_, rfl⟩
  obtain ⟨w5', hw5⟩ : ∃ w5', w5.alloc (.cells #[.int .i64 e', .int .i64 k', .slice b1 M' d1', .string t'] 26) = w5' := ⟨_, rfl⟩
  obtain ⟨w6, hw6⟩ : ∃ w6, w5'.alloc (.cells #[.int .i64 e', .int .i64 k', .slice b2 M' d2', .string t'] 24) = w6 := ⟨_, rfl⟩
  have hsz' : w5'.heap.size = H + 1 := by rw [← hw5, ← hH]; simp
  have hb5' : Below w5.heap.size w5 w5' := by rw [← hw5]; exact (Below.refl _ _).alloc (Nat.le_refl _) _
  have hb6 : Below w5.heap.size w5 w6 := by rw [← hw6]; exact hb5'.alloc hb5'.size _
  have g5 : QBlk 26 H (.int .i64 e') (.int .i64 k') (.slice b1 M' d1') (.string t') w5' := by rw [← hw5, ← hH]; exact World.alloc_heap_new _ _
  have h6 : QBlk 26 H (.int .i64 e') (.int .i64 k') (.slice b1 M' d1') (.string t') w6 := by rw [← hw6]; exact (Below.heap_alloc _ _ _ g5.lt).trans g5
  have hy6 : QBlk 24 (H + 1) (.int .i64 e') (.int .i64 k') (.slice b2 M' d2') (.string t') w6 := by rw [← hw6, ← hsz']; exact World.alloc_heap_new _ _
  have g6 := (HG4.out.below hb5).below hb6
  have gy6 := (HGY4.out.below hb5).below hb6
  have hB6 : Below w1.heap.size w1 w6 := (below_step HB4.out hb5).trans (hb6.mono (below_step HB4.out hb5).size)
  have hT6 := S.tab_of HT1.out hB6
  have hna6 := (HNA.out.below hb5).below hb6
  have HP1 : Hid (∀ v, Below w6.heap.size w6 v → Calls Tryd.prog 11 #[.agg #[.int .i64 e, .int .i64 k, .slice a1 M c1', .string t]] v (PackPost (packS e k ys t) v)) := Lib.hid fun v hv => pack_any e k a1 M c1' t ys v (hna6.below hv) (by have := HTs.out; omega) (S.tab_of hT6 hv)
  have hnb6 := hn1.below hb6
  have HP2 : Hid (∀ v, Below w6.heap.size w6 v → Calls Tryd.prog 11 #[.agg #[.int .i64 e', .int .i64 k', .slice b1 M' d1', .string t']] v (PackPost (packS e' k' ys' t') v)) := Lib.hid fun v hv => pack_any e' k' b1 M' d1' t' ys' v (hnb6.below hv) (by have := HTs'.out; omega) (S.tab_of hT6 hv)
  have hra6 := (HNB.out.below hb5).below hb6
  have HC1 : Hid (∀ v, Below w6.heap.size w6 v → Calls Tryd.prog 13 #[.agg #[.int .i64 e, .int .i64 k, .slice a2 M c2', .string t]] v fun en w' => en = .returned (.int .i64 (checkS e k ys t.size : Nat)) ∧ Below v.heap.size v w') := Lib.hid fun v hv => refcheck_any e k a2 M c2' t ys v (hra6.below hv).numsIn (by have := HM.out; omega) (by have := HTs.out; omega)
  have hrb6 := hn2.below hb6
  have HC2 : Hid (∀ v, Below w6.heap.size w6 v → Calls Tryd.prog 13 #[.agg #[.int .i64 e', .int .i64 k', .slice b2 M' d2', .string t']] v fun en w' => en = .returned (.int .i64 (checkS e' k' ys' t'.size : Nat)) ∧ Below v.heap.size v w') := Lib.hid fun v hv => refcheck_any e' k' b2 M' d2' t' ys' v (hrb6.below hv).numsIn (by have := HM'.out; omega) (by have := HTs'.out; omega)
  have HIs : Hid (∀ v, Below w6.heap.size w6 v → Calls Tryd.prog 17 #[.agg #[.int .i64 e, .int .i64 k, .slice a1 M c1', .string t], .agg #[.int .i64 e', .int .i64 k', .slice b2 M' d2', .string t']] v fun en w' => en = .returned (.bool (isB e k ys t e' k' ys' t')) ∧ Below v.heap.size v w') := Lib.hid fun v hv => is_any e k e' k' a1 b2 M M' c1' d2' ys ys' t t' v (hna6.below hv).numsIn (hrb6.below hv).numsIn (by have := HM.out; omega)
  have HB6 : Hid (Below w.heap.size w w6) := Lib.hid (HB1.out.trans (hB6.mono HB1.out.size))
  have HGl : Hid (G < w6.heap.size) := Lib.hid g6.lt
  have HHl : Hid (H < w6.heap.size) := Lib.hid h6.lt
  have HGY6 := Lib.hid gy6
  have HHY6 := Lib.hid hy6
  have HG6 := Lib.hid g6
  have c0 := g6.c0
  have c1 := g6.c1
  have c2 := g6.c2
  have c3 := g6.c3
  have k0 := h6.c0
  have k1 := h6.c1
  have k2 := h6.c2
  have k3 := h6.c3
  clear hn1 hn2 hb5 hb5' hb6 g5 h6 hy6 g6 gy6 hB6 hT6 hna6 hnb6 hra6 hrb6 hsz' HOwn' HOw' HN HN'
  subst hw5
  go_wp2_with fail
  clear hw6 hH hG hB
  refine R.wp_region_tail 5 (by kernel_rfl) (fun u => Below w6.heap.size w6 u) (fun u v => Below u.heap.size u v) (ApartOk (.agg #[.int .i64 e, .int .i64 k, .slice a1 M c1', .string t]) (.agg #[.int .i64 e', .int .i64 k', .slice b1 M' d1', .string t']) (packS e k ys t) (packS e' k' ys' t')) (by rfl) (by kernel_rfl) (by decide) (by kernel_rfl) (by kernel_rfl) (by kernel_rfl) ?hC ?hOk ?hop ?hdone ((Below.refl _ _).drew)
  case hC => exact fun u v h1 h2 => h1.trans (h2.mono h1.size)
  case hOk => exact fun i u w w' h _ => ApartOk.keeps i u w w' h
  case hop =>
    refine ⟨?_, ?_, ?_, ?_, ?_, trivial⟩
    · intro z v hz hag hdep
      refine .inl ⟨rfl, fun K hK => ?_⟩
      have d5 : z.tmps.getD 5 undef = .pointer (some ⟨G, 0, none⟩) := hag.2.2 5 (by kernel_rfl)
      have e5 := d5
      rw [Array.getD_eq_getD_getElem?] at e5
      have lc0 : v.cell? ⟨G, 0, none⟩ = some (.int .i64 e) := (hz.cell (p := ⟨G, 0, none⟩) HGl.out).trans c0
      have lc1 : v.cell? ⟨G, 1, none⟩ = some (.int .i64 k) := (hz.cell (p := ⟨G, 1, none⟩) HGl.out).trans c1
      have lc2 : v.cell? ⟨G, 2, none⟩ = some (.slice a1 M c1') := (hz.cell (p := ⟨G, 2, none⟩) HGl.out).trans c2
      have lc3 : v.cell? ⟨G, 3, none⟩ = some (.string t) := (hz.cell (p := ⟨G, 3, none⟩) HGl.out).trans c3
      clear hdep hag c0 c1 c2 c3 k0 k1 k2 k3 hz
      go_simp
      exact hK _ _ (Below.refl _ _) rfl
    · intro z v hz hag hdep
      refine .inl ⟨rfl, fun K hK => ?_⟩
      have d23 : z.tmps.getD 23 undef = .agg #[.int .i64 e, .int .i64 k, .slice a1 M c1', .string t] := hdep { on := 0, ground := .data } (by simp) rfl _ _ rfl rfl
      have e23 := d23
      rw [Array.getD_eq_getD_getElem?] at e23
      have HPv := Lib.hid (HP1.out v hz)
      clear hdep hag c0 c1 c2 c3 k0 k1 k2 k3 hz
      go_simp
      refine HPv.out.mono ?_
      rintro en w' ⟨s, rfl, hs, hb⟩
      exact hK _ _ hb ⟨s, rfl, hs⟩
    · intro z v hz hag hdep
      refine .inl ⟨rfl, fun K hK => ?_⟩
      have d7 : z.tmps.getD 7 undef = .pointer (some ⟨H, 0, none⟩) := hag.2.2 7 (by kernel_rfl)
      have e7 := d7
      rw [Array.getD_eq_getD_getElem?] at e7
      have lk0 : v.cell? ⟨H, 0, none⟩ = some (.int .i64 e') := (hz.cell (p := ⟨H, 0, none⟩) HHl.out).trans k0
      have lk1 : v.cell? ⟨H, 1, none⟩ = some (.int .i64 k') := (hz.cell (p := ⟨H, 1, none⟩) HHl.out).trans k1
      have lk2 : v.cell? ⟨H, 2, none⟩ = some (.slice b1 M' d1') := (hz.cell (p := ⟨H, 2, none⟩) HHl.out).trans k2
      have lk3 : v.cell? ⟨H, 3, none⟩ = some (.string t') := (hz.cell (p := ⟨H, 3, none⟩) HHl.out).trans k3
      clear hdep hag c0 c1 c2 c3 k0 k1 k2 k3 hz
      go_simp
      exact hK _ _ (Below.refl _ _) rfl
    · intro z v hz hag hdep
      refine .inl ⟨rfl, fun K hK => ?_⟩
      have d25 : z.tmps.getD 25 undef = .agg #[.int .i64 e', .int .i64 k', .slice b1 M' d1', .string t'] := hdep { on := 2, ground := .data } (by simp) rfl _ _ rfl rfl
      have e25 := d25
      rw [Array.getD_eq_getD_getElem?] at e25
      have HPv := Lib.hid (HP2.out v hz)
      clear hdep hag c0 c1 c2 c3 k0 k1 k2 k3 hz
      go_simp
      refine HPv.out.mono ?_
      rintro en w' ⟨s, rfl, hs, hb⟩
      exact hK _ _ hb ⟨s, rfl, hs⟩
    · intro z v hz hag hdep
      refine .inl ⟨rfl, fun K hK => ?_⟩
      have d24' : ApartOk (.agg #[.int .i64 e, .int .i64 k, .slice a1 M c1', .string t]) (.agg #[.int .i64 e', .int .i64 k', .slice b1 M' d1', .string t']) (packS e k ys t) (packS e' k' ys' t') 1 (z.tmps.getD 24 undef) v := hdep { on := 1, ground := .data } (by simp) rfl _ _ rfl rfl
      simp only [ApartOk] at d24'
      obtain ⟨s24, d24, hs24⟩ := d24'
      have e24 := d24
      rw [Array.getD_eq_getD_getElem?] at e24
      clear hdep hag c0 c1 c2 c3 k0 k1 k2 k3 hz
      go_simp
      exact hK _ _ (Below.refl _ _) ⟨_, rfl, hs24⟩
  case hdone =>
    intro z v hz hag hok hno
    clear hno
    obtain ⟨s, d9, hs⟩ : ∃ s : ByteArray, z.tmps.getD 9 undef = .string s ∧ s.data.toList = packS e k ys t := hok 4 _ 9 (by decide) rfl rfl
    obtain ⟨s', d26, hs'⟩ : ∃ s : ByteArray, z.tmps.getD 26 undef = .string s ∧ s.data.toList = packS e' k' ys' t' := hok 3 _ 26 (by decide) rfl rfl
    have d5 : z.tmps.getD 5 undef = .pointer (some ⟨G, 0, none⟩) := hag.2.2 5 (by kernel_rfl)
    have d6 : z.tmps.getD 6 undef = .pointer (some ⟨G + 1, 0, none⟩) := hag.2.2 6 (by kernel_rfl)
    have d8 : z.tmps.getD 8 undef = .pointer (some ⟨H + 1, 0, none⟩) := hag.2.2 8 (by kernel_rfl)
    obtain ⟨u, hu, hzz⟩ := frame56 z hag.2.1 hag.1
    have e5 := (hu 5).trans d5
    have e6 := (hu 6).trans d6
    have e8 := (hu 8).trans d8
    have e9 := (hu 9).trans d9
    have e26 := (hu 26).trans d26
    subst hzz
    have HZ := Lib.hid hz
    obtain ⟨R1, hR1⟩ : ∃ R1, checkS e k ys t.size = R1 := ⟨_, rfl⟩
    obtain ⟨R2, hR2⟩ : ∃ R2, checkS e' k' ys' t'.size = R2 := ⟨_, rfl⟩
    have hem := pack_empty hs
    have hem' := pack_empty hs'
    rw [hR1] at HC1 hem
    rw [hR2] at HC2 hem'
    have HEm := Lib.hid hem
    have HEm' := Lib.hid hem'
    have HS := Lib.hid hs
    have HS' := Lib.hid hs'
    have HR1 := Lib.hid hR1
    have HR2 := Lib.hid hR2
    rw [e5, e6, e8, e9, e26]
    clear d5 d6 d8 d9 d26 e5 e6 e8 e9 e26 hag hok hu hz hem hem' hs hs' hR1 hR2 c0 c1 c2 c3 k0 k1 k2 k3
    have gy := HGY6.out.below HZ.out
    have c0 := gy.c0
    have c1 := gy.c1
    have c2 := gy.c2
    have c3 := gy.c3
    have HCv := Lib.hid (HC1.out v HZ.out)
    clear gy
    dsimp only [List.drop]
    go_wp2_with fail
    refine HCv.out.mono ?_
    rintro en w7 ⟨rfl, hb7⟩
    have HZ7 := Lib.hid (below_step HZ.out hb7)
    clear hb7 c0 c1 c2 c3
    by_cases h1 : R1 = 0
    · subst h1
      have em1 : s.toList.isEmpty = false := by rw [HEm.out]; rfl
      have hy7 := HHY6.out.below HZ7.out
      have c0 := hy7.c0
      have c1 := hy7.c1
      have c2 := hy7.c2
      have c3 := hy7.c3
      have HCv2 := Lib.hid (HC2.out w7 HZ7.out)
      clear hy7
      go_wp2_with fail
      refine HCv2.out.mono ?_
      rintro en w8 ⟨rfl, hb8⟩
      have HZ8 := Lib.hid (below_step HZ7.out hb8)
      clear hb8 c0 c1 c2 c3
      by_cases h2 : R2 = 0
      · subst h2
        have hg8 := HG6.out.below HZ8.out
        have hy8 := HHY6.out.below HZ8.out
        have c0 := hg8.c0
        have c1 := hg8.c1
        have c2 := hg8.c2
        have c3 := hg8.c3
        have k0 := hy8.c0
        have k1 := hy8.c1
        have k2 := hy8.c2
        have k3 := hy8.c3
        have HIv := Lib.hid (HIs.out w8 HZ8.out)
        have hss : (s.toList == s'.toList) = isB e k ys t e' k' ys' t' := by
          rw [Bool.eq_iff_iff, isB_iff, beq_iff_eq, ByteArray.toList_eq, ByteArray.toList_eq, HS.out, HS'.out]
          constructor
          · intro h
            exact pack_inj HR1.out HR2.out (by have := HTs.out; omega) (by have := HTs'.out; omega) h
          · rintro ⟨h1, h2, h3, h4⟩
            rw [h1, h2, h3, bytes_eq h4]
        obtain ⟨Rb, hRb⟩ : ∃ Rb, isB e k ys t e' k' ys' t' = Rb := ⟨_, rfl⟩
        rw [hRb] at HIv hss
        have HSS := Lib.hid hss
        clear hg8 hy8 hss hRb
        go_wp2_with fail
        refine HIv.out.mono ?_
        rintro en w9 ⟨rfl, hb9⟩
        have HB9 : Hid (Below w.heap.size w w9) := Lib.hid (HB6.out.trans ((below_step HZ8.out hb9).mono HB6.out.size))
        have hss := HSS.out
        clear hb9 c0 c1 c2 c3 k0 k1 k2 k3
        go_wp2
        go_ret
        exact ⟨by cases Rb <;> rfl, HB9.out⟩
      · have hne2 : ((R2 : Int) != 0) = true := by rw [bne_iff_ne]; omega
        have em2 : s'.toList.isEmpty = true := by rw [HEm'.out]; exact decide_eq_true h2
        have hg8 := HGY6.out.below HZ8.out
        have c0 := hg8.c0
        have c1 := hg8.c1
        have c2 := hg8.c2
        have c3 := hg8.c3
        have HCv3 := Lib.hid (HC1.out w8 HZ8.out)
        clear hg8 h2
        go_wp2_with fail
        refine HCv3.out.mono ?_
        rintro en w9 ⟨rfl, hb9⟩
        have HZ9 := Lib.hid (below_step HZ8.out hb9)
        have hy9 := HHY6.out.below HZ9.out
        have k0 := hy9.c0
        have k1 := hy9.c1
        have k2 := hy9.c2
        have k3 := hy9.c3
        have HCv4 := Lib.hid (HC2.out w9 HZ9.out)
        clear hb9 hy9 c0 c1 c2 c3
        go_wp2_with fail
        refine HCv4.out.mono ?_
        rintro en w10 ⟨rfl, hb10⟩
        have HB10 : Hid (Below w.heap.size w w10) := Lib.hid (HB6.out.trans ((below_step HZ9.out hb10).mono HB6.out.size))
        clear hb10 k0 k1 k2 k3
        go_wp2
        go_ret
        exact ⟨rfl, HB10.out⟩
    · have hne1 : ((R1 : Int) != 0) = true := by rw [bne_iff_ne]; omega
      have em1 : s.toList.isEmpty = true := by rw [HEm.out]; exact decide_eq_true h1
      have hg7 := HGY6.out.below HZ7.out
      have c0 := hg7.c0
      have c1 := hg7.c1
      have c2 := hg7.c2
      have c3 := hg7.c3
      have HCv3 := Lib.hid (HC1.out w7 HZ7.out)
      clear hg7 h1
      go_wp2_with fail
      refine HCv3.out.mono ?_
      rintro en w9 ⟨rfl, hb9⟩
      have HZ9 := Lib.hid (below_step HZ7.out hb9)
      have hy9 := HHY6.out.below HZ9.out
      have k0 := hy9.c0
      have k1 := hy9.c1
      have k2 := hy9.c2
      have k3 := hy9.c3
      have HCv4 := Lib.hid (HC2.out w9 HZ9.out)
      clear hb9 hy9 c0 c1 c2 c3
      go_wp2_with fail
      refine HCv4.out.mono ?_
      rintro en w10 ⟨rfl, hb10⟩
      have HB10 : Hid (Below w.heap.size w w10) := Lib.hid (HB6.out.trans ((below_step HZ9.out hb10).mono HB6.out.size))
      clear hb10 k0 k1 k2 k3
      by_cases h2 : R2 = 0
      · subst h2
        have em2 : s'.toList.isEmpty = false := by rw [HEm'.out]; rfl
        go_wp2
        go_ret
        exact ⟨rfl, HB10.out⟩
      · have hne2 : ((R2 : Int) != 0) = true := by rw [bne_iff_ne]; omega
        have em2 : s'.toList.isEmpty = true := by rw [HEm'.out]; exact decide_eq_true h2
        clear h2
        go_wp2
        go_ret
        exact ⟨rfl, HB10.out⟩
end Go.Proofs.YtghnkpfnpidncaaDoor.G
