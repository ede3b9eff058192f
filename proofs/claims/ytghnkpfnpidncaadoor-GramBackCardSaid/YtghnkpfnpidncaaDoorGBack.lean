/- GramBack: a datagram that may be has just the document's bytes, and is parsed from them. No condition. -/
import Derived.Test.YtghnkpfnpidncaaDoorGApart
namespace Go.Proofs.YtghnkpfnpidncaaDoor.G
open Go.RowKit Go.Proofs.YtghnkpfnpidncaaDoor.I

def BackOk (gv yv : Value) (R : Nat) (s : ByteArray) (i N : Int) : Nat → Value → World → Prop
  | 0, u, _ => u = gv
  | 1, u, _ => u = .int .i64 (R : Int)
  | 2, u, _ => u = yv
  | 3, u, _ => u = .int .i64 (R : Int)
  | 4, u, _ => u = .bool false
  | 5, u, _ => u = .bool false
  | 6, u, _ => u = .string s
  | 7, u, _ => u = yv
  | 8, u, _ => u = .string s
  | 9, u, _ => u = .bool false
  | 10, u, _ => u = .bool false
  | 11, u, _ => u = .bool false
  | 12, u, _ => u = gv
  | 13, u, _ => u = .int .i64 i
  | 14, u, _ => u = .int .i64 N
  | 15, u, _ => u = .int .i64 N
  | 16, u, _ => u = .bool false
  | 17, u, _ => u = .bool false
  | _, _, _ => True
theorem BackOk.keeps {gv yv : Value} {R : Nat} {s : ByteArray} {i N : Int} (j : Nat) (u : Value) (w w' : World) (h : BackOk gv yv R s i N j u w) : BackOk gv yv R s i N j u w' := by
  unfold BackOk at h ⊢
  split <;> first | exact True.intro | exact h
theorem frame69 (z : Act) (hs : z.tmps.size = 69) (hd : z.defers = []) : ∃ u : Nat → Value, (∀ i, u i = z.tmps.getD i undef) ∧ z = { tmps := #[u 0, u 1, u 2, u 3, u 4, u 5, u 6, u 7, u 8, u 9, u 10, u 11, u 12, u 13, u 14, u 15, u 16, u 17, u 18, u 19, u 20, u 21, u 22, u 23, u 24, u 25, u 26, u 27, u 28, u 29, u 30, u 31, u 32, u 33, u 34, u 35, u 36, u 37, u 38, u 39, u 40, u 41, u 42, u 43, u 44, u 45, u 46, u 47, u 48, u 49, u 50, u 51, u 52, u 53, u 54, u 55, u 56, u 57, u 58, u 59, u 60, u 61, u 62, u 63, u 64, u 65, u 66, u 67, u 68], defers := [] } := by
  refine ⟨fun i => z.tmps.getD i undef, fun _ => rfl, ?_⟩
  obtain ⟨tmps, ds⟩ := z
  simp only at hd hs
  subst hd
  have hz : tmps = ((List.range 69).map fun i => tmps.getD i undef).toArray := by
    apply Array.ext
    · simp [hs]
    · intro i h1 h2
      simp [Array.getD_eq_getD_getElem?, h1]
  exact congrArg (fun t => ({ tmps := t, defers := [] } : Act)) hz
set_option maxRecDepth 100000 in
set_option maxHeartbeats 4000000 in
theorem back_walk (e k : Int) (a : Option Addr) (len cap : Nat) (d : ByteArray) (zs : List Int) (i : Int) (w : World) (hT : S.Tab w) (h : NumsIn a len zs w) (hlc : len ≤ cap) (hcap : (cap : Int) ≤ 9223372036854775807) (hd : (d.size : Int) ≤ 9223372036854775807) :
    Calls Tryd.prog 3 #[gramV e k a len cap d, .int .i64 i] w fun en w' => en = .returned (.bool true) ∧ Below w.heap.size w w' := by
  obtain ⟨w1, hw1⟩ : ∃ w1, w.alloc (.cells #[.int .i64 e, .int .i64 k, .slice a len cap, .string d] 24) = w1 := ⟨_, rfl⟩
  have hb1 : Below w.heap.size w w1 := by rw [← hw1]; exact (Below.refl _ _).alloc (Nat.le_refl _) _
  have hbox : QBlk 24 w.heap.size (.int .i64 e) (.int .i64 k) (.slice a len cap) (.string d) w1 := by rw [← hw1]; exact World.alloc_heap_new _ _
  obtain ⟨B, hB⟩ : ∃ B, w.heap.size = B := ⟨_, rfl⟩
  have hT1 := S.tab_of hT hb1
  have HN : Hid (∀ u, Below w1.heap.size w1 u → NumsIn a len zs u) := Lib.hid fun u hu => (h.below hb1).below hu
  have HT1 := Lib.hid hT1
  have HB1 := Lib.hid hb1
  rw [hB] at hbox
  have HBox := Lib.hid hbox
  obtain ⟨M, hM⟩ : ∃ M, M = min len 66 := ⟨_, rfl⟩
  obtain ⟨ys, hys⟩ : ∃ ys, ys = zs.take 66 := ⟨_, rfl⟩
  obtain ⟨t, ht⟩ : ∃ t, cutT d = t := ⟨_, rfl⟩
  have hts : (t.size : Int) ≤ 200 := by rw [← ht]; exact cutT_size d
  have htl : t.data.toList = d.data.toList.take 200 := by rw [← ht]; exact cutT_list d
  have HOwn : Hid (∀ u, Below w1.heap.size w1 u → Calls Tryd.prog 10 #[gramV e k a len cap d] u fun en w' => ∃ a1 c1 a2 c2, en = .returned (.tuple #[gramV e k a1 M c1 t, gramV e k a2 M c2 t]) ∧ NumsAt a1 M ys w' ∧ NumsAt a2 M ys w' ∧ Below u.heap.size u w') := Lib.hid fun u hu => own_any e k a len cap M d t zs ys u (HN.out u hu) hlc hd hcap htl hM hys
  have HM : Hid (M ≤ 66) := Lib.hid (by omega)
  have HTs := Lib.hid hts
  unfold gramV at *
  clear hT hb1 hbox hT1 h hlc hcap hd hts htl hM hys ht
  go_enter Tryd.func3, Tryd.ntmps3
  go_wp2_with fail
  refine (awake_any w1 HT1.out).mono ?_
  rintro en w2 ⟨rfl, hb2⟩
  have HOw := Lib.hid (HOwn.out w2 hb2)
  have hx2 := HBox.out.below hb2
  have c0 := hx2.c0
  have c1 := hx2.c1
  have c2 := hx2.c2
  have c3 := hx2.c3
  have HB2 := Lib.hid (below_step HB1.out hb2)
  have HT2 := Lib.hid (S.tab_of HT1.out hb2)
  clear hb2 hx2 hw1
  go_wp2_with fail
  refine HOw.out.mono ?_
  rintro en w3 ⟨a1, c1', a2, c2', rfl, hn1, hn2, hb3⟩
  obtain ⟨G, hG⟩ : ∃ G, w3.heap.size = G := ⟨_, rfl⟩
  obtain ⟨w3', hw3⟩ : ∃ w3', w3.alloc (.cells #[.int .i64 e, .int .i64 k, .slice a1 M c1', .string t] 26) = w3' := ⟨_, rfl⟩
  obtain ⟨w4, hw4⟩ : ∃ w4, w3'.alloc (.cells #[.int .i64 e, .int .i64 k, .slice a2 M c2', .string t] 24) = w4 := ⟨_, rfl⟩
  have hsz' : w3'.heap.size = G + 1 := by rw [← hw3, ← hG]; simp
  have hb3' : Below w3.heap.size w3 w3' := by rw [← hw3]; exact (Below.refl _ _).alloc (Nat.le_refl _) _
  have hb4 : Below w3.heap.size w3 w4 := by rw [← hw4]; exact hb3'.alloc hb3'.size _
  have g3 : QBlk 26 G (.int .i64 e) (.int .i64 k) (.slice a1 M c1') (.string t) w3' := by rw [← hw3, ← hG]; exact World.alloc_heap_new _ _
  have g4 : QBlk 26 G (.int .i64 e) (.int .i64 k) (.slice a1 M c1') (.string t) w4 := by rw [← hw4]; exact (Below.heap_alloc _ _ _ g3.lt).trans g3
  have y4 : QBlk 24 (G + 1) (.int .i64 e) (.int .i64 k) (.slice a2 M c2') (.string t) w4 := by rw [← hw4, ← hsz']; exact World.alloc_heap_new _ _
  have hB3 := below_step HB2.out hb3
  have hB4 : Below w.heap.size w w4 := hB3.trans (hb4.mono hB3.size)
  have hT4 := S.tab_of (S.tab_of HT2.out hb3) hb4
  have HPk := Lib.hid (pack_any e k a1 M c1' t ys w4 (hn1.below hb4) (by have := HTs.out; omega) hT4)
  have HN2 := Lib.hid (hn2.below hb4)
  have HN1 := Lib.hid (hn1.below hb4)
  have HG4 := Lib.hid g4
  have HY4 := Lib.hid y4
  have HB4 := Lib.hid hB4
  have HT4 := Lib.hid hT4
  have HMl : Hid ((M : Int) ≤ 1000000) := Lib.hid (by have := HM.out; omega)
  have c0 := g4.c0
  have c1 := g4.c1
  have c2 := g4.c2
  have c3 := g4.c3
  unfold gramV at *
  clear hn1 hn2 hb3 hb3' hb4 g3 g4 y4 hB3 hB4 hT4 hsz' HN HOwn HOw
  subst hw3
  go_wp2_with fail
  refine HPk.out.mono ?_
  rintro en w5 ⟨s, rfl, hsl, hb5⟩
  have g5 := HG4.out.below hb5
  have y5 := HY4.out.below hb5
  have hn1 := HN1.out.below hb5
  have hn2 := HN2.out.below hb5
  have hT5 := S.tab_of HT4.out hb5
  obtain ⟨R, hR⟩ : ∃ R, checkS e k ys t.size = R := ⟨_, rfl⟩
  have HR := Lib.hid hR
  have hlen := hn2.1
  have HC1 : Hid (∀ v, Below w5.heap.size w5 v → Calls Tryd.prog 12 #[.agg #[.int .i64 e, .int .i64 k, .slice a1 M c1', .string t]] v fun en w' => en = .returned (.int .i64 (R : Int)) ∧ Below v.heap.size v w') := Lib.hid fun v hv => by rw [← hR]; exact check_any e k a1 M c1' t ys v (hn1.below hv).numsIn (by have := HTs.out; omega)
  have HC2 : Hid (∀ v, Below w5.heap.size w5 v → Calls Tryd.prog 13 #[.agg #[.int .i64 e, .int .i64 k, .slice a2 M c2', .string t]] v fun en w' => en = .returned (.int .i64 (R : Int)) ∧ Below v.heap.size v w') := Lib.hid fun v hv => by rw [← hR]; exact refcheck_any e k a2 M c2' t ys v (hn2.below hv).numsIn HMl.out (by have := HTs.out; omega)
  have HPk2 : Hid (∀ v, Below w5.heap.size w5 v → Calls Tryd.prog 14 #[.agg #[.int .i64 e, .int .i64 k, .slice a2 M c2', .string t]] v (PackPost (packS e k ys t) v)) := Lib.hid fun v hv => refpack_any e k a2 M c2' t ys v (hn2.below hv).numsIn HMl.out (by have := HTs.out; omega)
  have HNm : Hid (∀ v, Below w5.heap.size w5 v → Calls Tryd.prog 15 #[.agg #[.int .i64 e, .int .i64 k, .slice a1 M c1', .string t], .int .i64 i] v fun en w' => en = .returned (.int .i64 (numAt ys i)) ∧ Below v.heap.size v w') := Lib.hid fun v hv => gnum_any e k a1 M c1' t ys i v (hn1.below hv).numsIn
  obtain ⟨N, hN⟩ : ∃ N, numAt ys i = N := ⟨_, rfl⟩
  rw [hN] at HNm
  have HNum : Hid ((¬ (0 ≤ i ∧ i < (M : Int)) → N = 0) ∧ (0 ≤ i ∧ i < (M : Int) → ∃ b off, a2 = some ⟨b, off, none⟩ ∧ w5.cell? ⟨b, off + i.toNat, none⟩ = some (.int .i64 N))) := Lib.hid (by
    unfold numAt at hN
    rw [← hlen] at hN
    constructor
    · intro h
      rw [← hN, if_neg h]
    · intro h
      rw [if_pos h] at hN
      have hlt : i.toNat < ys.length := by omega
      obtain ⟨b, off, h1, h2, h3⟩ := hn2.2.resolve_left (by rintro ⟨_, e0⟩; rw [e0] at hlt; simp at hlt)
      exact ⟨b, off, h1, by rw [h3 i.toNat hlt, hN]⟩)
  have HSl := Lib.hid hsl
  have HB5 := Lib.hid (below_step HB4.out hb5)
  have HT5 := Lib.hid hT5
  have HN5 := Lib.hid hn2
  have HY5 := Lib.hid y5
  have HGl : Hid (G < w5.heap.size) := Lib.hid g5.lt
  have HYl : Hid (G + 1 < w5.heap.size) := Lib.hid y5.lt
  have c0 := g5.c0
  have c1 := g5.c1
  have c2 := g5.c2
  have c3 := g5.c3
  have k0 := y5.c0
  have k1 := y5.c1
  have k2 := y5.c2
  have k3 := y5.c3
  unfold gramV at *
  clear hb5 g5 y5 hn1 hn2 hT5 hR hN hsl hlen hw4 HPk hG hB
  have hthree : (∃ b off, ∃ iN : Nat, a2 = some ⟨b, off, none⟩ ∧ i = (iN : Int) ∧ (iN : Int) < (M : Int) ∧ w5.cell? ⟨b, off + iN, none⟩ = some (.int .i64 N)) ∨ (0 ≤ i ∧ decide (i < (M : Int)) = false ∧ N = 0) ∨ (decide (0 ≤ i) = false ∧ N = 0) := by
    by_cases hi0 : 0 ≤ i
    · by_cases hi1 : i < (M : Int)
      · obtain ⟨b, off, h1, h2⟩ := HNum.out.2 ⟨hi0, hi1⟩
        exact .inl ⟨b, off, i.toNat, h1, by omega, by omega, h2⟩
      · exact .inr (.inl ⟨hi0, decide_eq_false hi1, HNum.out.1 (fun h => hi1 h.2)⟩)
    · exact .inr (.inr ⟨decide_eq_false hi0, HNum.out.1 (fun h => hi0 h.1)⟩)
  clear HNum
  rcases hthree with ⟨b, off, iN, ha2, rfl, hi1, hc⟩ | ⟨hi0, hd1, hN0⟩ | ⟨hd0, hN0⟩
  all_goals first | (have HZ := Lib.hid hN0; clear hN0) | skip
  all_goals go_wp2_with fail
  all_goals (first
    | (obtain ⟨i, hi⟩ : ∃ i : Int, i = (iN : Int) := ⟨_, rfl⟩
       rw [← hi] at HNm
       have HI0 : Hid (Value.int .i64 (iN : Int) = .int .i64 i) := Lib.hid (by rw [hi])
       have HN0 : Hid (Value.int .i64 N = .int .i64 N) := Lib.hid rfl
       clear hi hc hi1 ha2)
    | (have HI0 : Hid (Value.int .i64 i = .int .i64 i) := Lib.hid rfl
       have HN0 : Hid (Value.int .i64 0 = .int .i64 N) := Lib.hid (by rw [HZ.out])
       first | clear hi0 hd1 | clear hd0))
  all_goals
    refine Go.Proofs.YtghnkpfnpidncaaDoor.R.wp_region_tail 18 (by kernel_rfl) (fun u => Below w5.heap.size w5 u) (fun u v => Below u.heap.size u v) (BackOk (.agg #[.int .i64 e, .int .i64 k, .slice a1 M c1', .string t]) (.agg #[.int .i64 e, .int .i64 k, .slice a2 M c2', .string t]) R s i N) (by rfl) (by kernel_rfl) (by decide) (by kernel_rfl) (by kernel_rfl) (by kernel_rfl) ?hC ?hOk ?hop ?hdone ((Below.refl _ _).drew)
    case hC => exact fun u v h1 h2 => h1.trans (h2.mono h1.size)
    case hOk => exact fun j u w w' h _ => BackOk.keeps j u w w' h
    case hop =>
      refine ⟨?_, ?_, ?_, ?_, ?_, ?_, ?_, ?_, ?_, ?_, ?_, ?_, ?_, ?_, ?_, ?_, ?_, ?_, trivial⟩
      · intro z v hz hag hdep
        refine .inl ⟨rfl, fun K hK => ?_⟩
        have d5 : z.tmps.getD 5 undef = .pointer (some ⟨G, 0, none⟩) := hag.2.2 5 (by kernel_rfl)
        have e5 := d5
        rw [Array.getD_eq_getD_getElem?] at e5
        have lc0 : v.cell? ⟨G, 0, none⟩ = some (.int .i64 e) := (hz.cell (p := ⟨G, 0, none⟩) HGl.out).trans c0
        have lc1 : v.cell? ⟨G, 1, none⟩ = some (.int .i64 k) := (hz.cell (p := ⟨G, 1, none⟩) HGl.out).trans c1
        have lc2 : v.cell? ⟨G, 2, none⟩ = some (.slice a1 M c1') := (hz.cell (p := ⟨G, 2, none⟩) HGl.out).trans c2
        have lc3 : v.cell? ⟨G, 3, none⟩ = some (.string t) := (hz.cell (p := ⟨G, 3, none⟩) HGl.out).trans c3
        clear hdep hag c0 c1 c2 c3 k0 k1 k2 k3 hz
        go_simp
        exact hK _ _ (Below.refl _ _) rfl
      · intro z v hz hag hdep
        refine .inl ⟨rfl, fun K hK => ?_⟩
        have d34 : z.tmps.getD 34 undef = .agg #[.int .i64 e, .int .i64 k, .slice a1 M c1', .string t] := hdep { on := 0, ground := .data } (by simp) rfl _ _ rfl rfl
        have e34 := d34
        rw [Array.getD_eq_getD_getElem?] at e34
        have HPv := Lib.hid (HC1.out v hz)
        clear hdep hag c0 c1 c2 c3 k0 k1 k2 k3 hz
        go_simp
        refine HPv.out.mono ?_
        rintro en w' ⟨rfl, hb⟩
        exact hK _ _ hb rfl
      · intro z v hz hag hdep
        refine .inl ⟨rfl, fun K hK => ?_⟩
        have d6 : z.tmps.getD 6 undef = .pointer (some ⟨G + 1, 0, none⟩) := hag.2.2 6 (by kernel_rfl)
        have e6 := d6
        rw [Array.getD_eq_getD_getElem?] at e6
        have lk0 : v.cell? ⟨G + 1, 0, none⟩ = some (.int .i64 e) := (hz.cell (p := ⟨G + 1, 0, none⟩) HYl.out).trans k0
        have lk1 : v.cell? ⟨G + 1, 1, none⟩ = some (.int .i64 k) := (hz.cell (p := ⟨G + 1, 1, none⟩) HYl.out).trans k1
        have lk2 : v.cell? ⟨G + 1, 2, none⟩ = some (.slice a2 M c2') := (hz.cell (p := ⟨G + 1, 2, none⟩) HYl.out).trans k2
        have lk3 : v.cell? ⟨G + 1, 3, none⟩ = some (.string t) := (hz.cell (p := ⟨G + 1, 3, none⟩) HYl.out).trans k3
        clear hdep hag c0 c1 c2 c3 k0 k1 k2 k3 hz
        go_simp
        exact hK _ _ (Below.refl _ _) rfl
      · intro z v hz hag hdep
        refine .inl ⟨rfl, fun K hK => ?_⟩
        have d36 : z.tmps.getD 36 undef = .agg #[.int .i64 e, .int .i64 k, .slice a2 M c2', .string t] := hdep { on := 2, ground := .data } (by simp) rfl _ _ rfl rfl
        have e36 := d36
        rw [Array.getD_eq_getD_getElem?] at e36
        have HPv := Lib.hid (HC2.out v hz)
        clear hdep hag c0 c1 c2 c3 k0 k1 k2 k3 hz
        go_simp
        refine HPv.out.mono ?_
        rintro en w' ⟨rfl, hb⟩
        exact hK _ _ hb rfl
      · intro z v hz hag hdep
        refine .inl ⟨rfl, fun K hK => ?_⟩
        have d35 : z.tmps.getD 35 undef = .int .i64 (R : Int) := hdep { on := 1, ground := .data } (by simp) rfl _ _ rfl rfl
        have e35 := d35
        rw [Array.getD_eq_getD_getElem?] at e35
        have d37 : z.tmps.getD 37 undef = .int .i64 (R : Int) := hdep { on := 3, ground := .data } (by simp) rfl _ _ rfl rfl
        have e37 := d37
        rw [Array.getD_eq_getD_getElem?] at e37
        clear hdep hag c0 c1 c2 c3 k0 k1 k2 k3 hz
        go_simp
        exact hK _ _ (Below.refl _ _) rfl
      · intro z v hz hag hdep
        refine .inl ⟨rfl, fun K hK => ?_⟩
        have d38 : z.tmps.getD 38 undef = .bool false := hdep { on := 4, ground := .data } (by simp) rfl _ _ rfl rfl
        have e38 := d38
        rw [Array.getD_eq_getD_getElem?] at e38
        clear hdep hag c0 c1 c2 c3 k0 k1 k2 k3 hz
        go_simp
        exact hK _ _ (Below.refl _ _) rfl
      · intro z v hz hag hdep
        have dg : BackOk (.agg #[.int .i64 e, .int .i64 k, .slice a1 M c1', .string t]) (.agg #[.int .i64 e, .int .i64 k, .slice a2 M c2', .string t]) R s i N 5 (z.tmps.getD 39 undef) v := hdep { on := 5, ground := .guard } (by simp) rfl _ _ rfl rfl
        simp only [BackOk] at dg
        refine .inl ⟨Go.Proofs.YtghnkpfnpidncaaDoor.R.wanted_of (j := 5) rfl rfl rfl dg (by rw [hag.2.1]; show 39 < 69; decide), fun K hK => ?_⟩
        have d7 : z.tmps.getD 7 undef = .string s := hag.2.2 7 (by kernel_rfl)
        have e7 := d7
        rw [Array.getD_eq_getD_getElem?] at e7
        clear hdep hag c0 c1 c2 c3 k0 k1 k2 k3 hz
        go_simp
        exact hK _ _ (Below.refl _ _) rfl
      · intro z v hz hag hdep
        have dg : BackOk (.agg #[.int .i64 e, .int .i64 k, .slice a1 M c1', .string t]) (.agg #[.int .i64 e, .int .i64 k, .slice a2 M c2', .string t]) R s i N 5 (z.tmps.getD 39 undef) v := hdep { on := 5, ground := .guard } (by simp) rfl _ _ rfl rfl
        simp only [BackOk] at dg
        refine .inl ⟨Go.Proofs.YtghnkpfnpidncaaDoor.R.wanted_of (j := 5) rfl rfl rfl dg (by rw [hag.2.1]; show 39 < 69; decide), fun K hK => ?_⟩
        have d6 : z.tmps.getD 6 undef = .pointer (some ⟨G + 1, 0, none⟩) := hag.2.2 6 (by kernel_rfl)
        have e6 := d6
        rw [Array.getD_eq_getD_getElem?] at e6
        have lk0 : v.cell? ⟨G + 1, 0, none⟩ = some (.int .i64 e) := (hz.cell (p := ⟨G + 1, 0, none⟩) HYl.out).trans k0
        have lk1 : v.cell? ⟨G + 1, 1, none⟩ = some (.int .i64 k) := (hz.cell (p := ⟨G + 1, 1, none⟩) HYl.out).trans k1
        have lk2 : v.cell? ⟨G + 1, 2, none⟩ = some (.slice a2 M c2') := (hz.cell (p := ⟨G + 1, 2, none⟩) HYl.out).trans k2
        have lk3 : v.cell? ⟨G + 1, 3, none⟩ = some (.string t) := (hz.cell (p := ⟨G + 1, 3, none⟩) HYl.out).trans k3
        clear hdep hag c0 c1 c2 c3 k0 k1 k2 k3 hz
        go_simp
        exact hK _ _ (Below.refl _ _) rfl
      · intro z v hz hag hdep
        have dg : BackOk (.agg #[.int .i64 e, .int .i64 k, .slice a1 M c1', .string t]) (.agg #[.int .i64 e, .int .i64 k, .slice a2 M c2', .string t]) R s i N 5 (z.tmps.getD 39 undef) v := hdep { on := 5, ground := .guard } (by simp) rfl _ _ rfl rfl
        simp only [BackOk] at dg
        refine .inl ⟨Go.Proofs.YtghnkpfnpidncaaDoor.R.wanted_of (j := 5) rfl rfl rfl dg (by rw [hag.2.1]; show 39 < 69; decide), fun K hK => ?_⟩
        have d41 : z.tmps.getD 41 undef = .agg #[.int .i64 e, .int .i64 k, .slice a2 M c2', .string t] := hdep { on := 7, ground := .data } (by simp) rfl _ _ rfl rfl
        have e41 := d41
        rw [Array.getD_eq_getD_getElem?] at e41
        have HPv := Lib.hid (HPk2.out v hz)
        clear hdep hag c0 c1 c2 c3 k0 k1 k2 k3 hz
        go_simp
        refine HPv.out.mono ?_
        rintro en w' ⟨s2, rfl, hs2, hb⟩
        obtain rfl : s2 = s := bytes_eq (hs2.trans HSl.out.symm)
        exact hK _ _ hb rfl
      · intro z v hz hag hdep
        have dg : BackOk (.agg #[.int .i64 e, .int .i64 k, .slice a1 M c1', .string t]) (.agg #[.int .i64 e, .int .i64 k, .slice a2 M c2', .string t]) R s i N 5 (z.tmps.getD 39 undef) v := hdep { on := 5, ground := .guard } (by simp) rfl _ _ rfl rfl
        simp only [BackOk] at dg
        refine .inl ⟨Go.Proofs.YtghnkpfnpidncaaDoor.R.wanted_of (j := 5) rfl rfl rfl dg (by rw [hag.2.1]; show 39 < 69; decide), fun K hK => ?_⟩
        have d40 : z.tmps.getD 40 undef = .string s := hdep { on := 6, ground := .data } (by simp) rfl _ _ rfl rfl
        have e40 := d40
        rw [Array.getD_eq_getD_getElem?] at e40
        have d42 : z.tmps.getD 42 undef = .string s := hdep { on := 8, ground := .data } (by simp) rfl _ _ rfl rfl
        have e42 := d42
        rw [Array.getD_eq_getD_getElem?] at e42
        clear hdep hag c0 c1 c2 c3 k0 k1 k2 k3 hz
        go_simp
        exact hK _ _ (Below.refl _ _) rfl
      · intro z v hz hag hdep
        refine .inl ⟨rfl, fun K hK => ?_⟩
        have d39 : z.tmps.getD 39 undef = .bool false := hdep { on := 5, ground := .data } (by simp) rfl _ _ rfl rfl
        have e39 := d39
        rw [Array.getD_eq_getD_getElem?] at e39
        have d43 : z.tmps.getD 43 undef = .bool false := hdep { on := 9, ground := .data } (by simp) rfl _ _ rfl rfl
        have e43 := d43
        rw [Array.getD_eq_getD_getElem?] at e43
        clear hdep hag c0 c1 c2 c3 k0 k1 k2 k3 hz
        go_simp
        exact hK _ _ (Below.refl _ _) rfl
      · intro z v hz hag hdep
        refine .inl ⟨rfl, fun K hK => ?_⟩
        have d44 : z.tmps.getD 44 undef = .bool false := hdep { on := 10, ground := .data } (by simp) rfl _ _ rfl rfl
        have e44 := d44
        rw [Array.getD_eq_getD_getElem?] at e44
        clear hdep hag c0 c1 c2 c3 k0 k1 k2 k3 hz
        go_simp
        exact hK _ _ (Below.refl _ _) rfl
      · intro z v hz hag hdep
        have dg : BackOk (.agg #[.int .i64 e, .int .i64 k, .slice a1 M c1', .string t]) (.agg #[.int .i64 e, .int .i64 k, .slice a2 M c2', .string t]) R s i N 11 (z.tmps.getD 45 undef) v := hdep { on := 11, ground := .guard } (by simp) rfl _ _ rfl rfl
        simp only [BackOk] at dg
        refine .inl ⟨Go.Proofs.YtghnkpfnpidncaaDoor.R.wanted_of (j := 11) rfl rfl rfl dg (by rw [hag.2.1]; show 45 < 69; decide), fun K hK => ?_⟩
        have d5 : z.tmps.getD 5 undef = .pointer (some ⟨G, 0, none⟩) := hag.2.2 5 (by kernel_rfl)
        have e5 := d5
        rw [Array.getD_eq_getD_getElem?] at e5
        have lc0 : v.cell? ⟨G, 0, none⟩ = some (.int .i64 e) := (hz.cell (p := ⟨G, 0, none⟩) HGl.out).trans c0
        have lc1 : v.cell? ⟨G, 1, none⟩ = some (.int .i64 k) := (hz.cell (p := ⟨G, 1, none⟩) HGl.out).trans c1
        have lc2 : v.cell? ⟨G, 2, none⟩ = some (.slice a1 M c1') := (hz.cell (p := ⟨G, 2, none⟩) HGl.out).trans c2
        have lc3 : v.cell? ⟨G, 3, none⟩ = some (.string t) := (hz.cell (p := ⟨G, 3, none⟩) HGl.out).trans c3
        clear hdep hag c0 c1 c2 c3 k0 k1 k2 k3 hz
        go_simp
        exact hK _ _ (Below.refl _ _) rfl
      · intro z v hz hag hdep
        have dg : BackOk (.agg #[.int .i64 e, .int .i64 k, .slice a1 M c1', .string t]) (.agg #[.int .i64 e, .int .i64 k, .slice a2 M c2', .string t]) R s i N 11 (z.tmps.getD 45 undef) v := hdep { on := 11, ground := .guard } (by simp) rfl _ _ rfl rfl
        simp only [BackOk] at dg
        refine .inl ⟨Go.Proofs.YtghnkpfnpidncaaDoor.R.wanted_of (j := 11) rfl rfl rfl dg (by rw [hag.2.1]; show 45 < 69; decide), fun K hK => ?_⟩
        have d1 : z.tmps.getD 1 undef = .int .i64 i := (hag.2.2 1 (by kernel_rfl)).trans HI0.out
        have e1 := d1
        rw [Array.getD_eq_getD_getElem?] at e1
        clear hdep hag c0 c1 c2 c3 k0 k1 k2 k3 hz
        go_simp
        exact hK _ _ (Below.refl _ _) rfl
      · intro z v hz hag hdep
        have dg : BackOk (.agg #[.int .i64 e, .int .i64 k, .slice a1 M c1', .string t]) (.agg #[.int .i64 e, .int .i64 k, .slice a2 M c2', .string t]) R s i N 11 (z.tmps.getD 45 undef) v := hdep { on := 11, ground := .guard } (by simp) rfl _ _ rfl rfl
        simp only [BackOk] at dg
        refine .inl ⟨Go.Proofs.YtghnkpfnpidncaaDoor.R.wanted_of (j := 11) rfl rfl rfl dg (by rw [hag.2.1]; show 45 < 69; decide), fun K hK => ?_⟩
        have d46 : z.tmps.getD 46 undef = .agg #[.int .i64 e, .int .i64 k, .slice a1 M c1', .string t] := hdep { on := 12, ground := .data } (by simp) rfl _ _ rfl rfl
        have e46 := d46
        rw [Array.getD_eq_getD_getElem?] at e46
        have d47 : z.tmps.getD 47 undef = .int .i64 i := hdep { on := 13, ground := .data } (by simp) rfl _ _ rfl rfl
        have e47 := d47
        rw [Array.getD_eq_getD_getElem?] at e47
        have HPv := Lib.hid (HNm.out v hz)
        clear hdep hag c0 c1 c2 c3 k0 k1 k2 k3 hz
        go_simp
        refine HPv.out.mono ?_
        rintro en w' ⟨rfl, hb⟩
        exact hK _ _ hb rfl
      · intro z v hz hag hdep
        have dg : BackOk (.agg #[.int .i64 e, .int .i64 k, .slice a1 M c1', .string t]) (.agg #[.int .i64 e, .int .i64 k, .slice a2 M c2', .string t]) R s i N 11 (z.tmps.getD 45 undef) v := hdep { on := 11, ground := .guard } (by simp) rfl _ _ rfl rfl
        simp only [BackOk] at dg
        refine .inl ⟨Go.Proofs.YtghnkpfnpidncaaDoor.R.wanted_of (j := 11) rfl rfl rfl dg (by rw [hag.2.1]; show 45 < 69; decide), fun K hK => ?_⟩
        have d8 : z.tmps.getD 8 undef = .int .i64 N := (hag.2.2 8 (by kernel_rfl)).trans HN0.out
        have e8 := d8
        rw [Array.getD_eq_getD_getElem?] at e8
        clear hdep hag c0 c1 c2 c3 k0 k1 k2 k3 hz
        go_simp
        exact hK _ _ (Below.refl _ _) rfl
      · intro z v hz hag hdep
        have dg : BackOk (.agg #[.int .i64 e, .int .i64 k, .slice a1 M c1', .string t]) (.agg #[.int .i64 e, .int .i64 k, .slice a2 M c2', .string t]) R s i N 11 (z.tmps.getD 45 undef) v := hdep { on := 11, ground := .guard } (by simp) rfl _ _ rfl rfl
        simp only [BackOk] at dg
        refine .inl ⟨Go.Proofs.YtghnkpfnpidncaaDoor.R.wanted_of (j := 11) rfl rfl rfl dg (by rw [hag.2.1]; show 45 < 69; decide), fun K hK => ?_⟩
        have d48 : z.tmps.getD 48 undef = .int .i64 N := hdep { on := 14, ground := .data } (by simp) rfl _ _ rfl rfl
        have e48 := d48
        rw [Array.getD_eq_getD_getElem?] at e48
        have d49 : z.tmps.getD 49 undef = .int .i64 N := hdep { on := 15, ground := .data } (by simp) rfl _ _ rfl rfl
        have e49 := d49
        rw [Array.getD_eq_getD_getElem?] at e49
        clear hdep hag c0 c1 c2 c3 k0 k1 k2 k3 hz
        go_simp
        exact hK _ _ (Below.refl _ _) rfl
      · intro z v hz hag hdep
        refine .inl ⟨rfl, fun K hK => ?_⟩
        have d45 : z.tmps.getD 45 undef = .bool false := hdep { on := 11, ground := .data } (by simp) rfl _ _ rfl rfl
        have e45 := d45
        rw [Array.getD_eq_getD_getElem?] at e45
        have d50 : z.tmps.getD 50 undef = .bool false := hdep { on := 16, ground := .data } (by simp) rfl _ _ rfl rfl
        have e50 := d50
        rw [Array.getD_eq_getD_getElem?] at e50
        clear hdep hag c0 c1 c2 c3 k0 k1 k2 k3 hz
        go_simp
        exact hK _ _ (Below.refl _ _) rfl
    case hdone =>
      intro z v hz hag hok hno
      clear hno
      have d51 : z.tmps.getD 51 undef = .bool false := hok 17 _ 51 (by decide) rfl rfl
      have d6 : z.tmps.getD 6 undef = .pointer (some ⟨G + 1, 0, none⟩) := hag.2.2 6 (by kernel_rfl)
      have d7 : z.tmps.getD 7 undef = .string s := hag.2.2 7 (by kernel_rfl)
      obtain ⟨u, hu, hzz⟩ := frame69 z hag.2.1 hag.1
      have e51 := (hu 51).trans d51
      have e6 := (hu 6).trans d6
      have e7 := (hu 7).trans d7
      subst hzz
      have HZ' := Lib.hid hz
      rw [e51, e6, e7]
      have y6 := HY5.out.below hz
      have c0 := y6.c0
      have c1 := y6.c1
      have c2 := y6.c2
      have c3 := y6.c3
      have HCv := Lib.hid (HC2.out v hz)
      clear d51 d6 d7 e51 e6 e7 hag hok hu hz y6 k0 k1 k2 k3
      dsimp only [List.drop]
      go_wp2_with fail
      refine HCv.out.mono ?_
      rintro en w6 ⟨rfl, hb6⟩
      have HZ6 := Lib.hid (below_step HZ'.out hb6)
      have HB6 : Hid (Below w.heap.size w w6) := Lib.hid (below_step HB5.out HZ6.out)
      clear hb6 c0 c1 c2 c3
      by_cases hR0 : R = 0
      · subst hR0
        have HT7 := Lib.hid (S.tab_of HT5.out HZ6.out)
        have HY7 := Lib.hid (HY5.out.below HZ6.out)
        have HN7 := Lib.hid (HN5.out.below HZ6.out)
        have HCk := Lib.hid (check_ok HR.out)
        have HPa := Lib.hid (parse_back e k ys t s w6 HT7.out HSl.out HR.out (by have := HTs.out; omega))
        go_wp2_with fail
        refine HPa.out.mono ?_
        rintro en w8 ⟨a3, c3, d3, rfl, hd3, hn3, hb8⟩
        obtain ⟨L, hL⟩ : ∃ L, (List.map clipN ys).length = L := ⟨_, rfl⟩
        rw [hL] at hn3
        rw [hL]
        obtain ⟨v1, hv1⟩ : ∃ v1 : Nat, clipN e = v1 := ⟨_, rfl⟩
        obtain ⟨v2, hv2⟩ : ∃ v2 : Nat, clipN k = v2 := ⟨_, rfl⟩
        rw [hv1, hv2]
        obtain ⟨w9, hw9⟩ : ∃ w9, w8.alloc (.cells #[.int .i64 v1, .int .i64 v2, .slice a3 L c3, .string d3] 26) = w9 := ⟨_, rfl⟩
        have hb9 : Below w8.heap.size w8 w9 := by rw [← hw9]; exact (Below.refl _ _).alloc (Nat.le_refl _) _
        have hz9 : QBlk 26 w8.heap.size (.int .i64 v1) (.int .i64 v2) (.slice a3 L c3) (.string d3) w9 := by rw [← hw9]; exact World.alloc_heap_new _ _
        obtain ⟨H, hH⟩ : ∃ H, w8.heap.size = H := ⟨_, rfl⟩
        rw [hH] at hz9
        have hY9 := (HY7.out.below hb8).below hb9
        have HIs := Lib.hid (is_any v1 v2 e k a3 a2 L M c3 c2' ((ys.map clipN).map Int.ofNat) ys d3 t w9 (hn3.below hb9).numsIn ((HN7.out.below hb8).below hb9).numsIn (by rw [← hL, List.length_map]; have := (HCk.out).1.2.2.2.2; omega))
        have HB9 := Lib.hid (below_step (below_step HB6.out hb8) hb9)
        have hisb : isB v1 v2 ((ys.map clipN).map Int.ofNat) d3 e k ys t = true := by
          have hh := HCk.out.1
          unfold isB
          rw [clips_ok HCk.out.2.1, decide_eq_true (show (v1 : Int) = e by rw [← hv1]; have := hh.1; have := hh.2.1; unfold clipN top; omega), decide_eq_true (show (v2 : Int) = k by rw [← hv2]; have := hh.2.2.1; have := hh.2.2.2.1; unfold clipN top; omega), decide_eq_true rfl, decide_eq_true hd3]
          rfl
        rw [hisb] at HIs
        have c0 := hz9.c0
        have c1 := hz9.c1
        have c2 := hz9.c2
        have c3 := hz9.c3
        have k0 := hY9.c0
        have k1 := hY9.c1
        have k2 := hY9.c2
        have k3 := hY9.c3
        unfold gramV at *
        clear hd3 hn3 hb8 hb9 hz9 hY9 hL hv1 hv2 hisb HPa
        go_wp2_with fail
        refine HIs.out.mono ?_
        rintro en w10 ⟨rfl, hb10⟩
        have HB10 := Lib.hid (below_step HB9.out hb10)
        clear hb10 c0 c1 c2 c3 k0 k1 k2 k3 hw9 hH
        go_wp2
        go_ret
        exact ⟨rfl, HB10.out⟩
      · have hne : ((R : Int) != 0) = true := by rw [bne_iff_ne]; omega
        have he : s.toList.isEmpty = true := isEmpty_of (HSl.out.trans (pack_no (by rw [HR.out]; exact hR0)))
        clear hR0
        go_wp2
        go_ret
        exact ⟨rfl, HB6.out⟩
end Go.Proofs.YtghnkpfnpidncaaDoor.G
