/- The document's build: edges, then what is kept between them. -/
import Derived.Test.YtgagkmlkoeceiaaHInt
import Derived.Test.YtgagkmlkoeceiaaRelE
namespace Go.Proofs.Ytgagkmlkoeceiaa.H
open Go.RowKit
open Go.Proofs.Ytgagkmlkoeceiaa.W (OwnI IntsIn inV)

theorem ints_lit {base : Nat} (e : Int) (w : World) (hb : base ≤ w.heap.size) : OwnI base (.slice (some ⟨w.heap.size, 0, none⟩) 1 1) [e] (w.alloc (.cells #[.int .i64 e] 3)) := World.ownsRow_lit w #[.int .i64 e] 1 hb (by decide) rfl
def BuC1 (w6 : World) (e : Int) (v : Value) (u : World) : Prop := ∃ gl, v = .slice (some ⟨gl, 0, none⟩) 1 1 ∧ w6.heap.size ≤ gl ∧ OwnI w6.heap.size (.slice (some ⟨gl, 0, none⟩) 1 1) [e] u ∧ Below w6.heap.size w6 u
def BuC2 (w6 : World) (e : Int) (L : List Int) (v : Value) (u : World) : Prop := OwnI w6.heap.size v ([e] ++ L) u ∧ Below w6.heap.size w6 u
def BuOk12 (q N cap T : Nat) (e : Int) (E : List Int) (w6 : World) : Nat → Value → World → Prop
  | 0, u, _ => u = .slice (some ⟨q, 0, none⟩) N cap
  | 1, u, _ => u = .int .i64 (T : Int)
  | 2, u, _ => u = .slice (some ⟨q, 0, none⟩) T cap
  | 3, u, _ => u = .int .i64 e
  | 4, _, _ => True
  | 5, u, _ => u = .slice (some ⟨q, 0, none⟩) N cap
  | 6, u, _ => u = .int .i64 (T : Int)
  | 7, u, w => ∃ a2 k2 c2, u = .slice a2 k2 c2 ∧ IntsIn a2 k2 (E.drop T) w6 ∧ (a2 = none → c2 = 0)
  | 8, _, _ => True
  | 9, _, _ => True
  | 10, _, _ => True
  | _, _, _ => True
theorem insL_len (E : List Int) : ∀ (es : List Int), (insL E es).length ≤ E.length + es.length := by
  intro es
  induction es generalizing E with
  | nil => simp [insL]
  | cons e es ih =>
    have h1 := ih (insE e E)
    have h2 := insE_len e E
    show (insL (insE e E) es).length ≤ _
    simp only [List.length_cons]
    omega
theorem flatP_set (y : Sp) (f : Int) : ∀ (l : List Sp) (k : Nat), l[k]? = some y → (flatP .i64 l).set (k * 2 + 1) (.int .i64 f) = flatP .i64 (l.set k (y.1, f))
  | [], k, h => by simp at h
  | z :: l, 0, h => by
    obtain rfl : z = y := by simpa using h
    rfl
  | z :: l, k + 1, h => by
    have ih := flatP_set y f l k (by simpa using h)
    have e1 : flatP .i64 (z :: l) = .int .i64 z.1 :: .int .i64 z.2 :: flatP .i64 l := rfl
    rw [e1, show (k + 1) * 2 + 1 = (k * 2 + 1) + 2 by omega]
    simp only [List.set_cons_succ]
    rw [ih]
    rfl
theorem OwnP.set {T : TypeId} {base q n c k : Nat} {l : List Sp} {w : World} (h : OwnP .i64 T base (.slice (some ⟨q, 0, none⟩) n c) l w) (y : Sp) (f : Int) (hy : l[k]? = some y) : OwnP .i64 T base (.slice (some ⟨q, 0, none⟩) n c) (l.set k (y.1, f)) (w.setCell ⟨q, k * 2 + 1, none⟩ (.int .i64 f)) := by
  refine ⟨by rw [flatP_len], ?_⟩
  rcases h.2 with ⟨e, -⟩ | ⟨g, cap, cur, e, hbase, hg, hc, hm, hs, ht⟩
  · cases e
  · injection e with e1 e2 e3
    injection e1 with e1
    injection e1 with e1 _ _
    subst e1 e2 e3
    refine .inr ⟨q, c, cur.setIfInBounds (k * 2 + 1) (.int .i64 f), by rw [List.length_set], hbase, by simp [World.setCell, Array.getElem?_modify, hg], by rw [List.length_set]; exact hc, hm, by simpa using hs, ?_⟩
    rw [List.length_set, Array.toList_setIfInBounds, ← flatP_set y f l k hy, ← ht, List.take_set]
/-- what is kept so far -/
def OutI (B0 : Nat) (v0 : Value) (w0 : World) (O : List Sp) (v : Value) (w : World) : Prop := (∃ q cap, v = .slice (some ⟨q, 0, none⟩) O.length cap) ∧ OwnP .i64 80 B0 v O w ∧ KeepB v0.ownBlock.toList w0 w ∧ ∀ q, v.ownBlock = some q → v0.ownBlock = some q ∨ w0.heap.size ≤ q
theorem OutI.below {B0 : Nat} {v0 v : Value} {w0 w w' : World} {O : List Sp} (h : OutI B0 v0 w0 O v w) (hb : Below w.heap.size w w') : OutI B0 v0 w0 O v w' :=
  ⟨h.1, h.2.1.belowAll hb, h.2.2.1.trans (KeepB.of_below hb), h.2.2.2⟩
theorem OutI.grew {B0 : Nat} {v0 v v' : Value} {w0 w w' : World} {O O' : List Sp} (h : OutI B0 v0 w0 O v w) (hg : GrewP .i64 80 B0 v O' w v' w') (hne : O' ≠ []) : OutI B0 v0 w0 O' v' w' := by
  obtain ⟨h1, h2, h3, h4⟩ := h
  refine ⟨?_, hg.own, h3.two (keepB_grown hg.grown) (fun p hp => ?_), fun q hq => ?_⟩
  · rcases hg.own.2 with ⟨-, h0⟩ | ⟨g, cap, cur, e, -⟩
    · exact absurd (List.length_eq_zero_iff.1 h0) hne
    · exact ⟨g, cap, e⟩
  · rcases h4 p (by simpa using hp) with h | h
    · exact .inl (by simpa using h)
    · exact .inr h
  · rcases hg.block q hq with h | h
    · exact h4 q h
    · exact .inr (Nat.le_trans h3.size h)
theorem OutI.set {B0 : Nat} {v0 : Value} {w0 w : World} {O : List Sp} {q cap : Nat} (h : OutI B0 v0 w0 O (.slice (some ⟨q, 0, none⟩) O.length cap) w) {k : Nat} (y : Sp) (f : Int) (hy : O[k]? = some y) : OutI B0 v0 w0 (O.set k (y.1, f)) (.slice (some ⟨q, 0, none⟩) O.length cap) (w.setCell ⟨q, k * 2 + 1, none⟩ (.int .i64 f)) := by
  obtain ⟨h1, h2, h3, h4⟩ := h
  refine ⟨⟨q, cap, by rw [List.length_set]⟩, h2.set y f hy, h3.two (L := [q]) (KeepB.setCell _) (fun p hp => ?_), h4⟩
  obtain rfl := List.mem_singleton.1 hp
  rcases h4 p rfl with h | h
  · exact .inl (by simpa using h)
  · exact .inr h
set_option maxRecDepth 100000 in
set_option maxHeartbeats 16000000 in
theorem build_any (md : Nat) (hmd : md < 4) (a1 : Option Addr) (n1 c1 : Nat) (la : List Sp) (a2 : Option Addr) (n2 c2 : Nat) (lb : List Sp) (w : World) (h1 : PairsIn .i64 a1 n1 c1 la w) (h2 : PairsIn .i64 a2 n2 c2 lb w) (e1 : a1 = none → c1 = 0) (e2 : a2 = none → c2 = 0) (hl1 : n1 ≤ 1000) (hl2 : n2 ≤ 1000) :
    Calls Try.prog 42 #[.slice a1 n1 c1, .slice a2 n2 c2, .int .i64 (md : Int)] w (fun e w' => ∃ v, e = .returned v ∧ OwnP .i64 80 w.heap.size v (buildS md la lb) w' ∧ Below w.heap.size w w') := by
  obtain ⟨P, hP⟩ : ∃ P : Ending → World → Prop, (fun e w' => ∃ v, e = .returned v ∧ OwnP .i64 80 w.heap.size v (buildS md la lb) w' ∧ Below w.heap.size w w') = P := ⟨_, rfl⟩
  rw [hP]
  have HP := Lib.hid hP
  obtain ⟨q0, hq0⟩ : ∃ q0, q0 = w.heap.size := ⟨_, rfl⟩
  obtain ⟨w0, hw0⟩ : ∃ w0, w0 = w.alloc (.cells #[] 3) := ⟨_, rfl⟩
  have hb0 : Below w.heap.size w w0 := by rw [hw0]; exact alloc_below w _
  have hs0 : w0.heap.size = q0 + 1 := by rw [hw0, hq0]; simp
  have HE0 : Hid (OwnI 0 (.slice (some ⟨q0, 0, none⟩) 0 0) [] w0) := Lib.hid (by rw [hw0, hq0]; exact World.ownsRow_lit w #[] 0 (Nat.zero_le _) (by decide) rfl)
  have HI1 := Lib.hid (And.intro (h1.belowAll hb0) h2)
  have HI0 := Lib.hid (And.intro h1 h2)
  have HN12 := Lib.hid (And.intro e1 e2)
  have hn1 := h1.len
  have hn2 := h2.len
  have HLn := Lib.hid (And.intro hn1 hn2)
  have HQ0 := Lib.hid hq0
  have HW0 := Lib.hid hw0
  have HS0 := Lib.hid hs0
  have HB0 := Lib.hid hb0
  have HO1 := Lib.hid (OwnP.lit .i64 80 w0 w0.heap.size (Nat.le_refl _))
  have HI1a := Lib.hid (HI1.out.1.belowAll (alloc_below w0 (.cells #[] 80)))
  have HS1 := Lib.hid (alloc_below w0 (.cells #[] 80)).size
  clear hP hq0 hw0 hb0 hs0 h1 h2 e1 e2 hn1 hn2
  go_enter Try.func42, Try.ntmps42
  go_upto_region 2 with fail
  rw [← HW0.out, ← HQ0.out]
  go_wp2_with (at_builtin; refine wpList_append_p spanTR rfl _ _ rfl rfl w0.heap.size _ [] a1 n1 c1 la rfl rfl HO1.out HI1a.out HN12.out.1 (by simp) (by have := HLn.out.1; omega) HS1.out ?_)
  intro va wa hga
  have hBa : Below w0.heap.size w0 wa := (alloc_below w0 _).grown hga.grown HS1.out (fun q hq => by cases hq; exact Nat.le_refl _)
  try rw [List.nil_append] at hga
  have HI9a := Lib.hid ((HI1.out.2.belowAll HB0.out).belowAll hBa)
  have HBa := Lib.hid hBa
  have HGa := Lib.hid hga.own
  clear hga hBa HO1 HS1 HI1a
  go_wp2_with (at_builtin; refine wpList_append_p spanTR rfl _ _ rfl rfl w0.heap.size _ la a2 n2 c2 lb rfl rfl HGa.out HI9a.out HN12.out.2 (by have := HLn.out.1; omega) (by have := HLn.out.2; omega) HBa.out.size ?_)
  intro vb wb hgb
  have hBb : Below w0.heap.size w0 wb := HBa.out.grown hgb.grown HBa.out.size (fun q hq => (HGa.out.ownBlock q hq).1)
  obtain ⟨J, hJ⟩ : ∃ J, la ++ lb = J := ⟨_, rfl⟩
  obtain ⟨mj, hmj⟩ : ∃ mj, J.length = mj := ⟨_, rfl⟩
  have hmjl : mj ≤ 2000 := by have := HLn.out; rw [← hmj, ← hJ, List.length_append]; omega
  have hown := hgb.own
  rw [hJ] at hown
  obtain ⟨aj, cj, rfl, hIj, hAj, -⟩ := hown.shape
  rw [hmj] at hIj ⊢
  have HIj := Lib.hid hIj
  have HBb := Lib.hid hBb
  have HJ := Lib.hid hJ
  have HMj := Lib.hid hmj
  have HAj := Lib.hid hAj
  have hE : EdI (.slice (some ⟨q0, 0, none⟩) 0 0) wb (edgesF [] (J.take 0)) (.slice (some ⟨q0, 0, none⟩) 0 0) wb := EdI.refl ⟨q0, 0, rfl⟩ (W.OwnI.belowAll HE0.out hBb)
  have HE := Lib.hid hE
  clear hgb hown hIj hAj hBb hJ hmj hE HBa HGa HI9a
  go_wp2_with fail
  go_loopw [7, 24] (fun v7 i wr => ∃ k : Nat, k ≤ mj ∧ i = .int .i64 (k : Int) ∧ Hid (EdI (.slice (some ⟨q0, 0, none⟩) 0 0) wb (edgesF [] (J.take k)) v7 wr)) (fun _ i _ => mj - (intOf i).toNat)
  case atStart => exact ⟨0, by omega, rfl, HE⟩
  case round =>
    rename_i K0 hK0
    obtain ⟨k, hk, rfl, HB⟩ := hrel
    clear HE
    by_cases hlt : k < mj
    · have hkd : decide (k < mj) = true := decide_eq_true hlt
      have hkI : (k : Int) < mj := by omega
      obtain ⟨g, off, x, rfl, hg, hx, k0, k1⟩ := HIj.out.one hlt
      obtain ⟨hg0, -, rfl⟩ := HAj.out _ _ rfl
      rw [Nat.zero_add] at k0 k1
      have hgn : g ∉ ((Value.slice (some ⟨q0, 0, none⟩) 0 0).ownBlock).toList := by
        intro hm
        obtain rfl : g = q0 := by simpa [Value.ownBlock] using hm
        have := HS0.out
        omega
      have hgb := HB.out.2.2.1.block g hg hgn
      have k0 : wr.cell? ⟨g, k * 2, none⟩ = some (.int .i64 x.1) := by rw [← k0]; unfold World.cell?; simp only [hgb]
      have k1 : wr.cell? ⟨g, k * 2 + 1, none⟩ = some (.int .i64 x.2) := by rw [← k1]; unfold World.cell?; simp only [hgb]
      have HTk := Lib.hid (edgesF_take [] J k x hx)
      obtain ⟨x1, x2⟩ := x
      simp only at k0 k1
      obtain ⟨⟨qa, ca, hv7⟩, hO7, hK7, hq7⟩ := HB.out
      have hEl := edgesF_len (J.take k) []
      obtain ⟨Ea, hEE⟩ : ∃ Ea, edgesF [] (J.take k) = Ea := ⟨_, rfl⟩
      rw [hEE] at hv7 hO7 hEl
      have hEl : Ea.length ≤ 4000 := by rw [List.length_take] at hEl; simp at hEl; omega
      subst hv7
      have hqw := (OwnI.at0 hO7).2.2.2.2.1
      obtain ⟨w5, hw5⟩ : ∃ w5, w5 = (wr.alloc (.cells #[.int .i64 x1, .int .i64 x2] 80)).alloc (.cells #[.int .i64 x1, .int .i64 x2] 3) := ⟨_, rfl⟩
      have hb5 : Below wr.heap.size wr w5 := by rw [hw5]; exact (alloc_below wr _).alloc (by simp) _
      obtain ⟨lb5, hlb⟩ : ∃ lb5, wr.heap.size + 1 = lb5 := ⟨_, rfl⟩
      have hl5 : w5.heap[lb5]? = some (.cells #[.int .i64 x1, .int .i64 x2] 3 (0, 0)) := by rw [hw5, ← hlb]; have := heap_alloc_new (wr.alloc (.cells #[.int .i64 x1, .int .i64 x2] 80)) (.cells #[.int .i64 x1, .int .i64 x2] 3); simpa using this
      have hlq : qa < lb5 := by omega
      have hE5 : EdI (.slice (some ⟨qa, 0, none⟩) Ea.length ca) w5 (insL Ea ([x1, x2].take 0)) (.slice (some ⟨qa, 0, none⟩) Ea.length ca) w5 := EdI.refl ⟨qa, ca, rfl⟩ (W.OwnI.belowAll hO7 hb5)
      have hBk : EdI (.slice (some ⟨q0, 0, none⟩) 0 0) wb Ea (.slice (some ⟨qa, 0, none⟩) Ea.length ca) w5 := by have := HB.out.below hb5; rw [hEE] at this; exact this
      have HBk := Lib.hid hBk
      have HE5 := Lib.hid hE5
      have HL5 := Lib.hid hl5
      have HLb := Lib.hid hlb
      have HW5 := Lib.hid hw5
      have HEE := Lib.hid hEE
      have HEl := Lib.hid hEl
      have HLq := Lib.hid hlq
      clear hx hg hg0 hgn hgb hO7 hK7 hq7 hEE hEl hqw hw5 hb5 hlb hl5 hE5 hBk HB hlq
      go_wp2_with fail
      rw [← HW5.out]
      try rw [HLb.out]
      obtain ⟨V0, hV0⟩ : ∃ V0 : Value, .slice (some ⟨qa, 0, none⟩) Ea.length ca = V0 := ⟨_, rfl⟩
      have HV0 := Lib.hid hV0
      have HE5' : Hid (EdI V0 w5 (insL Ea ([x1, x2].take 0)) (.slice (some ⟨qa, 0, none⟩) Ea.length ca) w5) := Lib.hid (by have := HE5.out; rw [hV0] at this ⊢; exact this)
      clear hV0 HE5
      go_loopw [7, 34] (fun v7 ii wr => ∃ i : Nat, i ≤ 2 ∧ ii = .int .i64 (i : Int) ∧ Hid (EdI V0 w5 (insL Ea ([x1, x2].take i)) v7 wr)) (fun _ ii _ => 2 - (intOf ii).toNat)
      case atStart => exact ⟨0, by omega, rfl, HE5'⟩
      case round =>
        rename_i K1 hK1
        obtain ⟨i, hi, rfl, HEi⟩ := hrel
        obtain ⟨wi, hwi⟩ : ∃ wi : World, wi = wr := ⟨_, rfl⟩
        subst hwi
        clear HE5' k0 k1
        by_cases hi2 : i < 2
        · have hid : decide (i < 2) = true := decide_eq_true hi2
          have hiI : (i : Int) < 2 := by omega
          obtain ⟨e, he⟩ : ∃ e, [x1, x2][i]? = some e := ⟨_, List.getElem?_eq_getElem (by simpa using hi2)⟩
          have hil := insL_take Ea [x1, x2] i e he
          have hln := insL_len Ea ([x1, x2].take i)
          obtain ⟨E, hE⟩ : ∃ E, insL Ea ([x1, x2].take i) = E := ⟨_, rfl⟩
          rw [hE] at hil hln
          have hEd := HEi.out
          rw [hE] at hEd
          obtain ⟨⟨q, cap, hv7⟩, hO7, hK7, -⟩ := hEd
          obtain ⟨N, hN⟩ : ∃ N, E.length = N := ⟨_, rfl⟩
          rw [hN] at hv7
          subst hv7
          have hlN : N ≤ 4002 := by have := HEl.out; rw [List.length_take] at hln; simp at hln; omega
          obtain ⟨-, hNc, hctop, -, hqw, hcells⟩ := OwnI.at0 hO7
          have hlit : wi.heap[lb5]? = some (.cells #[.int .i64 x1, .int .i64 x2] 3 (0, 0)) := by
            rw [hK7.block lb5 (Array.getElem?_eq_some_iff.1 HL5.out).1 (fun hm => by
              rw [← HV0.out] at hm
              have : lb5 = qa := by simpa [Value.ownBlock] using hm
              have := HLq.out
              omega)]
            exact HL5.out
          have l0 : wi.cell? ⟨lb5, i, none⟩ = some (.int .i64 e) := by
            rw [cell_block hlit]
            match i, hi2, he with
            | 0, _, he => simp at he; rw [← he]; rfl
            | 1, _, he => simp at he; rw [← he]; rfl
          obtain ⟨T, hT⟩ : ∃ T, ltE e E = T := ⟨_, rfl⟩
          have hTN : T ≤ N := by rw [← hT, ← hN]; exact ltE_le e E
          have HIL := Lib.hid hil
          have HEd : Hid (EdI V0 w5 E (.slice (some ⟨q, 0, none⟩) N cap) wi) := Lib.hid (by have := HEi.out; rw [hE] at this; exact this)
          have HOw := Lib.hid hO7
          have HCl := Lib.hid hcells
          have HT := Lib.hid hT
          have HNN := Lib.hid hN
          have HNE : Hid (N = E.length ∧ N ≤ 4002) := Lib.hid ⟨hN.symm, hlN⟩
          clear he hil hln hE hO7 hK7 hcells hlit hT hN hqw HEi
          go_wp2_with fail
          rename_i Kb hKb
          go_loopw [12] (fun tt wr => ∃ j : Nat, tt = .int .i64 (j : Int) ∧ j ≤ T ∧ Hid (wi = wr)) (fun tt _ => T - (intOf tt).toNat)
          case atStart => exact ⟨0, rfl, by omega, Lib.hid rfl⟩
          case round =>
            rename_i K2 hK2
            obtain ⟨j, rfl, hj, HWj⟩ := hrel
            obtain rfl := HWj.out
            clear HWj
            by_cases hjT : j < T
            · have hjN : j < N := by omega
              have hd1 : decide (j < N) = true := decide_eq_true hjN
              have hjNI : (j : Int) < N := by omega
              obtain ⟨f, hf⟩ : ∃ f, E[j]? = some f := ⟨_, List.getElem?_eq_getElem (by rw [HNN.out]; exact hjN)⟩
              have k0 := HCl.out j f hf
              have hfe : f < e := ltE_lt e E j f hf (by rw [HT.out]; exact hjT)
              have hd2 : decide (f < e) = true := decide_eq_true hfe
              clear hf hfe
              go_wp2_with fail
              go_roundw
              case rel => exact ⟨j + 1, by go_num, by omega, by first | exact Lib.hid rfl | trivial⟩
              case measure => simp [intOf]; omega
            · obtain rfl : T = j := by omega
              have hTc : T ≤ cap := by omega
              have hTcI : (T : Int) ≤ cap := by omega
              have hNcI : (N : Int) ≤ cap := by omega
              have hTNI : (T : Int) ≤ N := by omega
              have HTN := Lib.hid hTN
              have HDr : Hid (∀ u : Value, u = .slice (if cap = T then some ⟨q, 0, none⟩ else some ⟨q, T, none⟩) (N - T) (cap - T) → ∃ a2 k2 c2, u = .slice a2 k2 c2 ∧ IntsIn a2 k2 (E.drop T) wi ∧ (a2 = none → c2 = 0)) := Lib.hid (by
                rintro u rfl
                refine ⟨_, _, _, rfl, ⟨by rw [List.length_drop, HNN.out], ?_⟩, fun h => by split at h <;> cases h⟩
                by_cases h0 : E.drop T = []
                · exact .inl h0
                · have hTl : T < N := by
                    rcases Nat.lt_or_ge T N with h1 | h1
                    · exact h1
                    · exact absurd (List.drop_eq_nil_iff.2 (by rw [HNN.out]; exact h1)) h0
                  refine .inr ⟨q, T, if_neg (by omega), (OwnI.at0 HOw.out).2.2.2.2.1, fun i hi => ?_⟩
                  rw [List.length_drop, HNN.out] at hi
                  obtain ⟨f, hf⟩ : ∃ f, E[T + i]? = some f := ⟨_, List.getElem?_eq_getElem (by rw [HNN.out]; omega)⟩
                  rw [HCl.out _ f hf]
                  simp [List.getD_eq_getElem?_getD, List.getElem?_drop, hf])
              by_cases hTl : T < N
              · obtain ⟨f, hf⟩ : ∃ f, E[T]? = some f := ⟨_, List.getElem?_eq_getElem (by rw [HNN.out]; exact hTl)⟩
                have k0 := HCl.out T f hf
                have hef := ltE_at e E f (by rw [HT.out]; exact hf)
                have hd1 : decide (T < N) = true := decide_eq_true hTl
                have hTI : (T : Int) < N := by omega
                have hd2 : decide (f < e) = false := decide_eq_false (by omega)
                have q1 : ((T : Int) == (N : Int)) = false := by rw [beq_eq_false_iff_ne]; omega
                by_cases hfe : f = e
                · have q2 : (f != e) = false := by simp [hfe]
                  have HIns : Hid (insE e E = E) := Lib.hid (by rw [insE_eq, HT.out, if_pos (by rw [hf, hfe])])
                  clear hf hef hfe HDr
                  go_wp2_with fail
                  go_roundw
                  case rel => exact ⟨i + 1, by omega, by go_num, Lib.hid (by rw [HIL.out, HIns.out]; exact HEd.out)⟩
                  case measure => simp [intOf]; omega
                · have q2 : (f != e) = true := by simp [hfe]
                  have HIns : Hid (insE e E = E.take T ++ ([e] ++ E.drop T)) := Lib.hid (by rw [insE_eq, HT.out, if_neg (by rw [hf]; intro h; exact hfe (by injection h))]; rfl)
                  obtain ⟨w6, hw6⟩ : ∃ w6 : World, w6 = wi := ⟨_, rfl⟩
                  subst hw6
                  clear hf hef hfe
                  go_upto_region 12 with fail
                  refine Go.Proofs.Ytgagkmlkoeceiaa.R.wp_region_kept [4, 8, 9, 10] [2, 2, 2, 0, 1, 1, 1, 1, 2, 3, 4] (by kernel_rfl) (QuaS (fun u => Below w6.heap.size w6 u) (BuC1 w6 e) (BuC2 w6 e (E.drop T)) (EdI (.slice (some ⟨q, 0, none⟩) N cap) w6 (insE e E)) (EdI (.slice (some ⟨q, 0, none⟩) N cap) w6 (insE e E)) 68 72 73 7) (fun _ _ => True) (BuOk12 q N cap T e E w6) (by rfl) (by kernel_rfl) (by kernel_rfl) (by kernel_rfl) (by kernel_rfl) ?hcongB ?hOkB ?hopB ?hdoneB ?h0B
                  case hcongB => exact fun k f f2 u hs hst => QuaS.cong (fun hk => hs 68 (Go.Proofs.Ytgagkmlkoeceiaa.R.mem_slots (by subst hk; kernel_rfl))) (fun hk => hs 72 (Go.Proofs.Ytgagkmlkoeceiaa.R.mem_slots (by subst hk; kernel_rfl))) (fun hk => hs 73 (Go.Proofs.Ytgagkmlkoeceiaa.R.mem_slots (by subst hk; kernel_rfl))) (fun hk => hs 7 (Go.Proofs.Ytgagkmlkoeceiaa.R.mem_slots (by subst hk; kernel_rfl))) hst
                  case hOkB => intro i u w1 w2 h hr; unfold BuOk12 at h ⊢; split <;> first | exact True.intro | exact h
                  case h0B => exact (Below.refl _ _).drew
                  case hopB =>
                    refine ⟨?_, ?_, ?_, ?_, ?_, ?_, ?_, ?_, ?_, ?_, ?_, trivial⟩
                    · intro k z v hk hst hag hdep hfr
                      refine .inl ⟨rfl, fun K hK => ?_⟩
                      have d7 : z.tmps.getD 7 undef = .slice (some ⟨q, 0, none⟩) N cap := hfr 7 (by kernel_rfl)
                      have e7 := d7
                      rw [Array.getD_eq_getD_getElem?] at e7
                      have HSt := Lib.hid hst
                      clear hdep hfr hag hst
                      go_simp
                      exact hK _ _ trivial rfl HSt.out
                    · intro k z v hk hst hag hdep hfr
                      refine .inl ⟨rfl, fun K hK => ?_⟩
                      have d12 : z.tmps.getD 12 undef = .int .i64 (T : Int) := hag.2.2 12 (by kernel_rfl)
                      have e12 := d12
                      rw [Array.getD_eq_getD_getElem?] at e12
                      have HSt := Lib.hid hst
                      clear hdep hfr hag hst
                      go_simp
                      exact hK _ _ trivial rfl HSt.out
                    · intro k z v hk hst hag hdep hfr
                      refine .inl ⟨rfl, fun K hK => ?_⟩
                      have d64 : z.tmps.getD 64 undef = .slice (some ⟨q, 0, none⟩) N cap := hdep { on := 0, ground := .data } (by simp) rfl _ _ rfl rfl
                      have e64 := d64
                      rw [Array.getD_eq_getD_getElem?] at e64
                      have d65 : z.tmps.getD 65 undef = .int .i64 (T : Int) := hdep { on := 1, ground := .data } (by simp) rfl _ _ rfl rfl
                      have e65 := d65
                      rw [Array.getD_eq_getD_getElem?] at e65
                      have HSt := Lib.hid hst
                      clear hdep hfr hag hst
                      go_simp
                      exact hK _ _ trivial rfl HSt.out
                    · intro k z v hk hst hag hdep hfr
                      refine .inl ⟨rfl, fun K hK => ?_⟩
                      have d11 : z.tmps.getD 11 undef = .int .i64 e := hag.2.2 11 (by kernel_rfl)
                      have e11 := d11
                      rw [Array.getD_eq_getD_getElem?] at e11
                      have HSt := Lib.hid hst
                      clear hdep hfr hag hst
                      go_simp
                      exact hK _ _ trivial rfl HSt.out
                    · intro z v hst hag hdep hfr
                      refine ⟨rfl, fun K hK => ?_⟩
                      have d67 : z.tmps.getD 67 undef = .int .i64 e := hdep { on := 3, ground := .data } (by simp) rfl _ _ rfl rfl
                      have e67 := d67
                      rw [Array.getD_eq_getD_getElem?] at e67
                      have hsz : 68 < z.tmps.size := by rw [hag.2.1]; show 68 < 132; decide
                      have hbz := alloc_below v (.cells #[.int .i64 e] 3)
                      have HSt := Lib.hid hst
                      clear hdep hfr hag hst
                      go_simp
                      exact hK _ _ trivial True.intro ⟨v.heap.size, Go.Proofs.Ytgagkmlkoeceiaa.R.slot_same hsz, by have := HSt.out.size; exact this, ints_lit e v HSt.out.size, HSt.out.trans (hbz.mono HSt.out.size)⟩
                    · intro k z v hk hst hag hdep hfr
                      refine .inl ⟨rfl, fun K hK => ?_⟩
                      have d7 : z.tmps.getD 7 undef = .slice (some ⟨q, 0, none⟩) N cap := hfr 7 (by kernel_rfl)
                      have e7 := d7
                      rw [Array.getD_eq_getD_getElem?] at e7
                      have HSt := Lib.hid hst
                      clear hdep hfr hag hst
                      go_simp
                      exact hK _ _ trivial rfl HSt.out
                    · intro k z v hk hst hag hdep hfr
                      refine .inl ⟨rfl, fun K hK => ?_⟩
                      have d12 : z.tmps.getD 12 undef = .int .i64 (T : Int) := hag.2.2 12 (by kernel_rfl)
                      have e12 := d12
                      rw [Array.getD_eq_getD_getElem?] at e12
                      have HSt := Lib.hid hst
                      clear hdep hfr hag hst
                      go_simp
                      exact hK _ _ trivial rfl HSt.out
                    · intro k z v hk hst hag hdep hfr
                      refine .inl ⟨rfl, fun K hK => ?_⟩
                      have d69 : z.tmps.getD 69 undef = .slice (some ⟨q, 0, none⟩) N cap := hdep { on := 5, ground := .data } (by simp) rfl _ _ rfl rfl
                      have e69 := d69
                      rw [Array.getD_eq_getD_getElem?] at e69
                      have d70 : z.tmps.getD 70 undef = .int .i64 (T : Int) := hdep { on := 6, ground := .data } (by simp) rfl _ _ rfl rfl
                      have e70 := d70
                      rw [Array.getD_eq_getD_getElem?] at e70
                      have HSt := Lib.hid hst
                      clear hdep hfr hag hst
                      go_simp
                      exact hK _ _ trivial (HDr.out _ rfl) HSt.out
                    · intro z v hst hag hdep hfr
                      refine ⟨rfl, fun K hK => ?_⟩
                      have d71' : BuOk12 q N cap T e E w6 7 (z.tmps.getD 71 undef) v := hdep { on := 7, ground := .data } (by simp) rfl _ _ rfl rfl
                      simp only [BuOk12] at d71'
                      obtain ⟨a2, k2, c2, d71, hI2, hn2⟩ := d71'
                      have e71 := d71
                      rw [Array.getD_eq_getD_getElem?] at e71
                      obtain ⟨gl, f68, hgl, ho68, hb68⟩ := hst
                      have d68 : z.tmps.getD 68 undef = .slice (some ⟨gl, 0, none⟩) 1 1 := f68
                      have hsz : 72 < z.tmps.size := by rw [hag.2.1]; show 72 < 132; decide
                      have HSt := Lib.hid hb68
                      clear hdep hfr hag f68 hb68
                      refine wp_append_i _ _ rfl rfl w6.heap.size _ [e] a2 k2 c2 (E.drop T) d68 d71 ho68 (IntsIn.belowAll hI2 HSt.out) hn2 (by simp) (by rw [List.length_drop]; have := HNE.out; omega) HSt.out.size ?_
                      intro v2 w9 h1 h2 h3
                      exact hK _ _ trivial True.intro (by
      have e9 := Go.Proofs.Ytgagkmlkoeceiaa.R.slot_same (v := v2) hsz
      show BuC2 _ _ _ _ _
      rw [e9]
      exact ⟨h1, HSt.out.grown h2 HSt.out.size (fun p hp => by cases hp; exact hgl)⟩)
                    · intro z v hst hag hdep hfr
                      refine ⟨rfl, fun K hK => ?_⟩
                      have d66 : z.tmps.getD 66 undef = .slice (some ⟨q, 0, none⟩) T cap := hdep { on := 2, ground := .data } (by simp) rfl _ _ rfl rfl
                      have e66 := d66
                      rw [Array.getD_eq_getD_getElem?] at e66
                      obtain ⟨ho72, hb72⟩ := hst
                      obtain ⟨v72, hv72⟩ : ∃ x, z.tmps.getD 72 undef = x := ⟨_, rfl⟩
                      have hv72s : Go.Proofs.Ytgagkmlkoeceiaa.R.slot z 72 = v72 := hv72
                      rw [hv72s] at ho72
                      obtain ⟨a3, c3, rfl, hI3, -, hn3, -, -⟩ := W.OwnI.shape ho72
                      have hsz : 73 < z.tmps.size := by rw [hag.2.1]; show 73 < 132; decide
                      have HSt := Lib.hid hb72
                      have HO72 := Lib.hid hI3
                      clear hdep hfr hag hv72s hb72 ho72
                      refine wp_append_i _ _ rfl rfl 0 _ (E.take T) a3 _ c3 ([e] ++ E.drop T) d66 hv72 (W.OwnI.belowAll (OwnI.front HOw.out HTN.out) HSt.out) hI3 hn3 (by rw [List.length_take]; have := HNE.out; omega) (by simp; have := HNE.out; omega) (Nat.zero_le _) ?_
                      intro v2 w9 h1 h2 h3
                      exact hK _ _ trivial True.intro (by
      have e9 := Go.Proofs.Ytgagkmlkoeceiaa.R.slot_same (v := v2) hsz
      show EdI _ _ _ _ _
      rw [e9]
      have h1 := h1
      rw [show E.take T ++ ([e] ++ E.drop T) = insE e E from HIns.out.symm] at h1
      refine ⟨OwnI.atSome h1 (insE_ne e E), h1, (KeepB.of_below HSt.out).trans (keepB_grown h2), fun p hp => (h3 p hp).imp id (fun h => Nat.le_trans HSt.out.size h)⟩)
                    · intro z v hst hag hdep hfr
                      refine ⟨rfl, fun K hK => ?_⟩
                      obtain ⟨v73, hv73⟩ : ∃ x, z.tmps.getD 73 undef = x := ⟨_, rfl⟩
                      have hv73s : Go.Proofs.Ytgagkmlkoeceiaa.R.slot z 73 = v73 := hv73
                      have hst : EdI (.slice (some ⟨q, 0, none⟩) N cap) w6 (insE e E) (Go.Proofs.Ytgagkmlkoeceiaa.R.slot z 73) v := hst
                      rw [hv73s] at hst
                      have hsz : 7 < z.tmps.size := by rw [hag.2.1]; show 7 < 132; decide
                      have HSt := Lib.hid hst
                      have e73 := hv73
                      rw [Array.getD_eq_getD_getElem?] at e73
                      clear hdep hfr hag hst hv73s
                      go_simp
                      exact hK _ _ trivial True.intro (by
      show EdI _ _ _ _ _
      rw [Go.Proofs.Ytgagkmlkoeceiaa.R.slot_same hsz]
      exact HSt.out)
                  case hdoneB =>
                    intro z v hst hag hok
                    obtain ⟨v7, hv7⟩ : ∃ x, z.tmps.getD 7 undef = x := ⟨_, rfl⟩
                    replace hst : EdI (.slice (some ⟨q, 0, none⟩) N cap) w6 (insE e E) (Go.Proofs.Ytgagkmlkoeceiaa.R.slot z 7) v := hst
                    rw [show Go.Proofs.Ytgagkmlkoeceiaa.R.slot z 7 = v7 from hv7] at hst
                    have d7 := hv7
                    have HI := Lib.hid hst
                    clear hst hv7
                    obtain ⟨uu, hu, hzz⟩ := Go.Proofs.Ytgagkmlkoeceiaa.R.agree_frame [64, 65, 66, 67, 68, 69, 70, 71, 72, 73, 7] rfl hag
                    have e7 := (hu 7).trans d7
                    subst hzz
                    simp only [List.foldl_cons, List.foldl_nil]
                    rw [e7]
                    clear e7 d7 hu hag hok
                    try dsimp only [Exit.then]
                    simp only [List.setIfInBounds_toArray, List.set_cons_succ, List.set_cons_zero]
                    generalize uu 64 = u64', uu 65 = u65', uu 66 = u66', uu 67 = u67', uu 68 = u68', uu 69 = u69', uu 70 = u70', uu 71 = u71', uu 72 = u72', uu 73 = u73'
                    clear uu
                    try dsimp only [Exit.inBlock, Exit.then]
                    refine hK2 _ _ ?_
                    go_wp2_with fail
                    go_roundw
                    case rel => exact ⟨i + 1, by omega, by go_num, Lib.hid (by rw [HIL.out]; exact (HEd.out.trans HI.out))⟩
                    case measure => simp [intOf]; omega
              · have hTe : T = N := by omega
                have hd1 : decide (T < N) = false := decide_eq_false hTl
                have q1 : ((T : Int) == (N : Int)) = true := by rw [hTe]; simp
                have HIns : Hid (insE e E = E.take T ++ ([e] ++ E.drop T)) := Lib.hid (by rw [insE_eq, HT.out, if_neg (by rw [List.getElem?_eq_none (by rw [HNN.out, hTe]; exact Nat.le_refl _)]; intro h; cases h)]; rfl)
                obtain ⟨w6, hw6⟩ : ∃ w6 : World, w6 = wi := ⟨_, rfl⟩
                subst hw6
                clear hTe
                go_upto_region 12 with fail
                refine Go.Proofs.Ytgagkmlkoeceiaa.R.wp_region_kept [4, 8, 9, 10] [2, 2, 2, 0, 1, 1, 1, 1, 2, 3, 4] (by kernel_rfl) (QuaS (fun u => Below w6.heap.size w6 u) (BuC1 w6 e) (BuC2 w6 e (E.drop T)) (EdI (.slice (some ⟨q, 0, none⟩) N cap) w6 (insE e E)) (EdI (.slice (some ⟨q, 0, none⟩) N cap) w6 (insE e E)) 68 72 73 7) (fun _ _ => True) (BuOk12 q N cap T e E w6) (by rfl) (by kernel_rfl) (by kernel_rfl) (by kernel_rfl) (by kernel_rfl) ?hcongA ?hOkA ?hopA ?hdoneA ?h0A
                case hcongA => exact fun k f f2 u hs hst => QuaS.cong (fun hk => hs 68 (Go.Proofs.Ytgagkmlkoeceiaa.R.mem_slots (by subst hk; kernel_rfl))) (fun hk => hs 72 (Go.Proofs.Ytgagkmlkoeceiaa.R.mem_slots (by subst hk; kernel_rfl))) (fun hk => hs 73 (Go.Proofs.Ytgagkmlkoeceiaa.R.mem_slots (by subst hk; kernel_rfl))) (fun hk => hs 7 (Go.Proofs.Ytgagkmlkoeceiaa.R.mem_slots (by subst hk; kernel_rfl))) hst
                case hOkA => intro i u w1 w2 h hr; unfold BuOk12 at h ⊢; split <;> first | exact True.intro | exact h
                case h0A => exact (Below.refl _ _).drew
                case hopA =>
                  refine ⟨?_, ?_, ?_, ?_, ?_, ?_, ?_, ?_, ?_, ?_, ?_, trivial⟩
                  · intro k z v hk hst hag hdep hfr
                    refine .inl ⟨rfl, fun K hK => ?_⟩
                    have d7 : z.tmps.getD 7 undef = .slice (some ⟨q, 0, none⟩) N cap := hfr 7 (by kernel_rfl)
                    have e7 := d7
                    rw [Array.getD_eq_getD_getElem?] at e7
                    have HSt := Lib.hid hst
                    clear hdep hfr hag hst
                    go_simp
                    exact hK _ _ trivial rfl HSt.out
                  · intro k z v hk hst hag hdep hfr
                    refine .inl ⟨rfl, fun K hK => ?_⟩
                    have d12 : z.tmps.getD 12 undef = .int .i64 (T : Int) := hag.2.2 12 (by kernel_rfl)
                    have e12 := d12
                    rw [Array.getD_eq_getD_getElem?] at e12
                    have HSt := Lib.hid hst
                    clear hdep hfr hag hst
                    go_simp
                    exact hK _ _ trivial rfl HSt.out
                  · intro k z v hk hst hag hdep hfr
                    refine .inl ⟨rfl, fun K hK => ?_⟩
                    have d64 : z.tmps.getD 64 undef = .slice (some ⟨q, 0, none⟩) N cap := hdep { on := 0, ground := .data } (by simp) rfl _ _ rfl rfl
                    have e64 := d64
                    rw [Array.getD_eq_getD_getElem?] at e64
                    have d65 : z.tmps.getD 65 undef = .int .i64 (T : Int) := hdep { on := 1, ground := .data } (by simp) rfl _ _ rfl rfl
                    have e65 := d65
                    rw [Array.getD_eq_getD_getElem?] at e65
                    have HSt := Lib.hid hst
                    clear hdep hfr hag hst
                    go_simp
                    exact hK _ _ trivial rfl HSt.out
                  · intro k z v hk hst hag hdep hfr
                    refine .inl ⟨rfl, fun K hK => ?_⟩
                    have d11 : z.tmps.getD 11 undef = .int .i64 e := hag.2.2 11 (by kernel_rfl)
                    have e11 := d11
                    rw [Array.getD_eq_getD_getElem?] at e11
                    have HSt := Lib.hid hst
                    clear hdep hfr hag hst
                    go_simp
                    exact hK _ _ trivial rfl HSt.out
                  · intro z v hst hag hdep hfr
                    refine ⟨rfl, fun K hK => ?_⟩
                    have d67 : z.tmps.getD 67 undef = .int .i64 e := hdep { on := 3, ground := .data } (by simp) rfl _ _ rfl rfl
                    have e67 := d67
                    rw [Array.getD_eq_getD_getElem?] at e67
                    have hsz : 68 < z.tmps.size := by rw [hag.2.1]; show 68 < 132; decide
                    have hbz := alloc_below v (.cells #[.int .i64 e] 3)
                    have HSt := Lib.hid hst
                    clear hdep hfr hag hst
                    go_simp
                    exact hK _ _ trivial True.intro ⟨v.heap.size, Go.Proofs.Ytgagkmlkoeceiaa.R.slot_same hsz, by have := HSt.out.size; exact this, ints_lit e v HSt.out.size, HSt.out.trans (hbz.mono HSt.out.size)⟩
                  · intro k z v hk hst hag hdep hfr
                    refine .inl ⟨rfl, fun K hK => ?_⟩
                    have d7 : z.tmps.getD 7 undef = .slice (some ⟨q, 0, none⟩) N cap := hfr 7 (by kernel_rfl)
                    have e7 := d7
                    rw [Array.getD_eq_getD_getElem?] at e7
                    have HSt := Lib.hid hst
                    clear hdep hfr hag hst
                    go_simp
                    exact hK _ _ trivial rfl HSt.out
                  · intro k z v hk hst hag hdep hfr
                    refine .inl ⟨rfl, fun K hK => ?_⟩
                    have d12 : z.tmps.getD 12 undef = .int .i64 (T : Int) := hag.2.2 12 (by kernel_rfl)
                    have e12 := d12
                    rw [Array.getD_eq_getD_getElem?] at e12
                    have HSt := Lib.hid hst
                    clear hdep hfr hag hst
                    go_simp
                    exact hK _ _ trivial rfl HSt.out
                  · intro k z v hk hst hag hdep hfr
                    refine .inl ⟨rfl, fun K hK => ?_⟩
                    have d69 : z.tmps.getD 69 undef = .slice (some ⟨q, 0, none⟩) N cap := hdep { on := 5, ground := .data } (by simp) rfl _ _ rfl rfl
                    have e69 := d69
                    rw [Array.getD_eq_getD_getElem?] at e69
                    have d70 : z.tmps.getD 70 undef = .int .i64 (T : Int) := hdep { on := 6, ground := .data } (by simp) rfl _ _ rfl rfl
                    have e70 := d70
                    rw [Array.getD_eq_getD_getElem?] at e70
                    have HSt := Lib.hid hst
                    clear hdep hfr hag hst
                    go_simp
                    exact hK _ _ trivial (HDr.out _ rfl) HSt.out
                  · intro z v hst hag hdep hfr
                    refine ⟨rfl, fun K hK => ?_⟩
                    have d71' : BuOk12 q N cap T e E w6 7 (z.tmps.getD 71 undef) v := hdep { on := 7, ground := .data } (by simp) rfl _ _ rfl rfl
                    simp only [BuOk12] at d71'
                    obtain ⟨a2, k2, c2, d71, hI2, hn2⟩ := d71'
                    have e71 := d71
                    rw [Array.getD_eq_getD_getElem?] at e71
                    obtain ⟨gl, f68, hgl, ho68, hb68⟩ := hst
                    have d68 : z.tmps.getD 68 undef = .slice (some ⟨gl, 0, none⟩) 1 1 := f68
                    have hsz : 72 < z.tmps.size := by rw [hag.2.1]; show 72 < 132; decide
                    have HSt := Lib.hid hb68
                    clear hdep hfr hag f68 hb68
                    refine wp_append_i _ _ rfl rfl w6.heap.size _ [e] a2 k2 c2 (E.drop T) d68 d71 ho68 (IntsIn.belowAll hI2 HSt.out) hn2 (by simp) (by rw [List.length_drop]; have := HNE.out; omega) HSt.out.size ?_
                    intro v2 w9 h1 h2 h3
                    exact hK _ _ trivial True.intro (by
      have e9 := Go.Proofs.Ytgagkmlkoeceiaa.R.slot_same (v := v2) hsz
      show BuC2 _ _ _ _ _
      rw [e9]
      exact ⟨h1, HSt.out.grown h2 HSt.out.size (fun p hp => by cases hp; exact hgl)⟩)
                  · intro z v hst hag hdep hfr
                    refine ⟨rfl, fun K hK => ?_⟩
                    have d66 : z.tmps.getD 66 undef = .slice (some ⟨q, 0, none⟩) T cap := hdep { on := 2, ground := .data } (by simp) rfl _ _ rfl rfl
                    have e66 := d66
                    rw [Array.getD_eq_getD_getElem?] at e66
                    obtain ⟨ho72, hb72⟩ := hst
                    obtain ⟨v72, hv72⟩ : ∃ x, z.tmps.getD 72 undef = x := ⟨_, rfl⟩
                    have hv72s : Go.Proofs.Ytgagkmlkoeceiaa.R.slot z 72 = v72 := hv72
                    rw [hv72s] at ho72
                    obtain ⟨a3, c3, rfl, hI3, -, hn3, -, -⟩ := W.OwnI.shape ho72
                    have hsz : 73 < z.tmps.size := by rw [hag.2.1]; show 73 < 132; decide
                    have HSt := Lib.hid hb72
                    have HO72 := Lib.hid hI3
                    clear hdep hfr hag hv72s hb72 ho72
                    refine wp_append_i _ _ rfl rfl 0 _ (E.take T) a3 _ c3 ([e] ++ E.drop T) d66 hv72 (W.OwnI.belowAll (OwnI.front HOw.out HTN.out) HSt.out) hI3 hn3 (by rw [List.length_take]; have := HNE.out; omega) (by simp; have := HNE.out; omega) (Nat.zero_le _) ?_
                    intro v2 w9 h1 h2 h3
                    exact hK _ _ trivial True.intro (by
      have e9 := Go.Proofs.Ytgagkmlkoeceiaa.R.slot_same (v := v2) hsz
      show EdI _ _ _ _ _
      rw [e9]
      have h1 := h1
      rw [show E.take T ++ ([e] ++ E.drop T) = insE e E from HIns.out.symm] at h1
      refine ⟨OwnI.atSome h1 (insE_ne e E), h1, (KeepB.of_below HSt.out).trans (keepB_grown h2), fun p hp => (h3 p hp).imp id (fun h => Nat.le_trans HSt.out.size h)⟩)
                  · intro z v hst hag hdep hfr
                    refine ⟨rfl, fun K hK => ?_⟩
                    obtain ⟨v73, hv73⟩ : ∃ x, z.tmps.getD 73 undef = x := ⟨_, rfl⟩
                    have hv73s : Go.Proofs.Ytgagkmlkoeceiaa.R.slot z 73 = v73 := hv73
                    have hst : EdI (.slice (some ⟨q, 0, none⟩) N cap) w6 (insE e E) (Go.Proofs.Ytgagkmlkoeceiaa.R.slot z 73) v := hst
                    rw [hv73s] at hst
                    have hsz : 7 < z.tmps.size := by rw [hag.2.1]; show 7 < 132; decide
                    have HSt := Lib.hid hst
                    have e73 := hv73
                    rw [Array.getD_eq_getD_getElem?] at e73
                    clear hdep hfr hag hst hv73s
                    go_simp
                    exact hK _ _ trivial True.intro (by
      show EdI _ _ _ _ _
      rw [Go.Proofs.Ytgagkmlkoeceiaa.R.slot_same hsz]
      exact HSt.out)
                case hdoneA =>
                  intro z v hst hag hok
                  obtain ⟨v7, hv7⟩ : ∃ x, z.tmps.getD 7 undef = x := ⟨_, rfl⟩
                  replace hst : EdI (.slice (some ⟨q, 0, none⟩) N cap) w6 (insE e E) (Go.Proofs.Ytgagkmlkoeceiaa.R.slot z 7) v := hst
                  rw [show Go.Proofs.Ytgagkmlkoeceiaa.R.slot z 7 = v7 from hv7] at hst
                  have d7 := hv7
                  have HI := Lib.hid hst
                  clear hst hv7
                  obtain ⟨uu, hu, hzz⟩ := Go.Proofs.Ytgagkmlkoeceiaa.R.agree_frame [64, 65, 66, 67, 68, 69, 70, 71, 72, 73, 7] rfl hag
                  have e7 := (hu 7).trans d7
                  subst hzz
                  simp only [List.foldl_cons, List.foldl_nil]
                  rw [e7]
                  clear e7 d7 hu hag hok
                  try dsimp only [Exit.then]
                  simp only [List.setIfInBounds_toArray, List.set_cons_succ, List.set_cons_zero]
                  generalize uu 64 = u64', uu 65 = u65', uu 66 = u66', uu 67 = u67', uu 68 = u68', uu 69 = u69', uu 70 = u70', uu 71 = u71', uu 72 = u72', uu 73 = u73'
                  clear uu
                  try dsimp only [Exit.inBlock, Exit.then]
                  refine hK2 _ _ ?_
                  go_wp2_with fail
                  go_roundw
                  case rel => exact ⟨i + 1, by omega, by go_num, Lib.hid (by rw [HIL.out]; exact (HEd.out.trans HI.out))⟩
                  case measure => simp [intOf]; omega
        · obtain rfl : i = 2 := by omega
          have hid : decide (2 < 2) = false := by decide
          have h1 := HEi.out
          have h2 := HBk.out
          rw [HV0.out] at h2
          have h3 := h2.trans h1
          have e3 : insL Ea ([x1, x2].take 2) = edgesF [] (J.take (k + 1)) := by rw [HTk.out, HEE.out]; rfl
          rw [e3] at h3
          have HEn := Lib.hid h3
          clear h1 h2 h3 e3
          clear HEi
          go_wp2_with fail
          go_roundw
          case rel => exact ⟨k + 1, by omega, by go_num, HEn⟩
          case measure => simp [intOf]; omega
    · obtain rfl : k = mj := by omega
      have hkd : decide (k < k) = false := decide_eq_false (by omega)
      have e1 : J.take k = J := by rw [← HMj.out, List.take_length]
      have hB := HB.out
      rw [e1] at hB
      obtain ⟨E, hE⟩ : ∃ E, edgesF [] J = E := ⟨_, rfl⟩
      rw [hE] at hB
      have hEl := edgesF_len J []
      rw [hE, HMj.out] at hEl
      obtain ⟨⟨qe, ce, hv7⟩, hO7, hK7, -⟩ := hB
      subst hv7
      obtain ⟨ne, hne⟩ : ∃ ne, E.length = ne := ⟨_, rfl⟩
      rw [hne] at hO7 hEl ⊢
      have hnel : ne ≤ 4000 := by simp at hEl; omega
      obtain ⟨-, hnec, hctop, -, hqw, hcells⟩ := OwnI.at0 hO7
      have hbw : Below w.heap.size w wr := hK7.below (fun p hp => by
        have : p = q0 := by simpa [Value.ownBlock] using hp
        rw [this, HQ0.out]; exact Nat.le_refl _) (HB0.out.trans (HBb.out.mono HB0.out.size)) (Nat.le_trans HB0.out.size HBb.out.size)
      obtain ⟨ql, hql⟩ : ∃ ql, wr.heap.size = ql := ⟨_, rfl⟩
      obtain ⟨wl, hwl⟩ : ∃ wl, wl = wr.alloc (.cells #[] 80) := ⟨_, rfl⟩
      have hbl : Below wr.heap.size wr wl := by rw [hwl]; exact alloc_below _ _
      have HCu : Hid (∀ (u : World), KeepB [ql] wl u → ∀ (i : Nat) (e : Int), E[i]? = some e → u.cell? ⟨qe, i, none⟩ = some (.int .i64 e)) := Lib.hid (by
        intro u hu i e he
        have h1 := hu.block qe (Nat.lt_of_lt_of_le hqw hbl.size) (by rw [← hql]; simp; omega)
        have h2 := (hbl.cell (p := ⟨qe, i, none⟩) hqw).trans (hcells i e he)
        rw [← h2]
        unfold World.cell?
        simp only [h1])
      have HWu : Hid (∀ (u : World), KeepB [ql] wl u → Below w.heap.size w u) := Lib.hid (by
        intro u hu
        exact hu.below (fun p hp => by rw [List.mem_singleton.1 hp, ← hql]; exact hbw.size) (hbw.trans (hbl.mono hbw.size)) (Nat.le_trans hbw.size hbl.size))
      have hO : OutI w.heap.size (.slice (some ⟨ql, 0, none⟩) 0 0) wl (outN (fun e => kp md (hasS e la) (hasS e lb)) E 0) (.slice (some ⟨ql, 0, none⟩) 0 0) wl := ⟨⟨ql, 0, rfl⟩, by rw [hwl, ← hql]; exact OwnP.lit _ _ _ _ hbw.size, KeepB.refl _ _, fun q hq => .inl hq⟩
      have hasc : Asc E := by rw [← hE]; exact edgesF_asc _ List.Pairwise.nil
      have hbs : buildS md la lb = outN (fun e => kp md (hasS e la) (hasS e lb)) E (ne - 1) := by unfold buildS; rw [HJ.out, hE, hne]
      obtain ⟨qq, hqq⟩ : ∃ qq : Int → Bool, (fun e => kp md (hasS e la) (hasS e lb)) = qq := ⟨_, rfl⟩
      rw [hqq] at hO hbs
      have HQq : Hid (∀ e, kp md (hasS e la) (hasS e lb) = qq e) := Lib.hid fun e => by rw [← hqq]
      have HO := Lib.hid hO
      have HBs := Lib.hid hbs
      have HNe := Lib.hid hne
      have HQl := Lib.hid hql
      have HWl := Lib.hid hwl
      have HOl : Hid (∀ i, (outN qq E i).length ≤ i) := Lib.hid (outN_len qq E)
      have HHx : Hid (a1 = none → c1 = 0) := Lib.hid HN12.out.1
      clear hE hEl hO7 hK7 hcells hqw hbw hql hwl hbl hO hasc hbs hqq hne e1 HB
      go_upto_region 16 with fail
      rw [← HWl.out, HQl.out]
      go_wp2_with fail
      go_loopw [13, 14] (fun v13 ii wr => ∃ i : Nat, i ≤ ne - 1 ∧ ii = .int .i64 (i : Int) ∧ Hid (OutI w.heap.size (.slice (some ⟨ql, 0, none⟩) 0 0) wl (outN qq E i) v13 wr)) (fun _ ii _ => (ne - 1) - (intOf ii).toNat)
      case atStart => exact ⟨0, by omega, rfl, HO⟩
      case round =>
        rename_i K3 hK3
        obtain ⟨i, hi, rfl, HOi⟩ := hrel
        obtain ⟨u, hu⟩ : ∃ u : World, u = wr := ⟨_, rfl⟩
        subst hu
        clear HO
        by_cases hlt : i < ne - 1
        · have hdI : (i : Int) + 1 < ne := by omega
          have hd : decide ((i : Int) + 1 < (ne : Int)) = true := decide_eq_true hdI
          have hd' : i + 1 < ne := by omega
          have hiN : i < ne := by omega
          have hiI : (i : Int) < ne := by omega
          obtain ⟨e, he⟩ : ∃ e, E[i]? = some e := ⟨_, List.getElem?_eq_getElem (by rw [HNe.out]; exact hiN)⟩
          obtain ⟨f, hf⟩ : ∃ f, E[i + 1]? = some f := ⟨_, List.getElem?_eq_getElem (by rw [HNe.out]; exact hd')⟩
          have hKu : KeepB [ql] wl u := HOi.out.2.2.1
          have k0 := HCu.out u hKu i e he
          have hwu := HWu.out u hKu
          obtain ⟨r1, hr1⟩ : ∃ r, hasS e la = r := ⟨_, rfl⟩
          obtain ⟨r2, hr2⟩ : ∃ r, hasS e lb = r := ⟨_, rfl⟩
          have hC1 := hasR_any a1 n1 c1 la e u (HI0.out.1.belowAll hwu) (by omega)
          rw [hr1] at hC1
          have HC1 := Lib.hid hC1
          have HR2 := Lib.hid hr2
          have hr := HQq.out e
          rw [hr1, hr2] at hr
          have hsu := outN_succ qq E i e f he hf
          have HSu := Lib.hid hsu
          have HRr := Lib.hid hr
          have HHe := Lib.hid (And.intro he hf)
          have HWu0 := Lib.hid hwu
          have HKu := Lib.hid hKu
          obtain ⟨O, hO⟩ : ∃ O, outN qq E i = O := ⟨_, rfl⟩
          have HOeq := Lib.hid hO
          have HOlen : Hid (O.length ≤ i) := Lib.hid (by rw [← hO]; exact HOl.out i)
          clear he hf hKu hwu hr1 hr2 hC1 hr hsu hO
          go_wp2_with fail
          refine HC1.out.mono ?_
          rintro e0 u1 ⟨rfl, hb1⟩
          have hC2 := hasR_any a2 n2 c2 lb e u1 (HI0.out.2.belowAll (HWu0.out.trans (hb1.mono HWu0.out.size))) (by omega)
          rw [HR2.out] at hC2
          have HC2 := Lib.hid hC2
          have HB1 := Lib.hid hb1
          clear hb1 hC2 HC1
          go_wp2_with fail
          refine HC2.out.mono ?_
          rintro e0 u2 ⟨rfl, hb2⟩
          have hC3 := keep_any md hmd r1 r2 u2
          rw [HRr.out] at hC3
          have HC3 := Lib.hid hC3
          have HB2 : Hid (Below u.heap.size u u2) := Lib.hid (HB1.out.trans (hb2.mono HB1.out.size))
          clear hb2 hC3 HC2 HB1
          go_wp2_with fail
          refine HC3.out.mono ?_
          rintro e0 u3 ⟨rfl, hb3⟩
          have hBu : Below u.heap.size u u3 := HB2.out.trans (hb3.mono HB2.out.size)
          have hK3u : KeepB [ql] wl u3 := HKu.out.trans (KeepB.of_below hBu)
          have HWu3 := Lib.hid (HWu.out u3 hK3u)
          have k0 := HCu.out u3 hK3u i e HHe.out.1
          have k1 := HCu.out u3 hK3u (i + 1) f HHe.out.2
          have hOi3 := HOi.out.below hBu
          rw [HOeq.out] at hOi3
          have HOi3 := Lib.hid hOi3
          have hsu := HSu.out
          rw [HOeq.out] at hsu
          obtain ⟨rr, hrr⟩ : ∃ r, qq e = r := ⟨_, rfl⟩
          rw [hrr] at hsu ⊢
          clear hb3 hBu hK3u HB2 HC3 HWu0 HKu HSu HRr hrr
          cases rr with
          | false =>
            have HSu := Lib.hid hsu
            have hfin := HOi3.out
            rw [show O = outN qq E (i + 1) from HSu.out.symm] at hfin
            have HFin := Lib.hid hfin
            clear hfin hsu hOi3
            go_wp2_with fail
            go_roundw
            case rel => exact ⟨i + 1, by omega, by go_num, HFin⟩
            case measure => simp [intOf]; omega
          | true =>
            have HSu : Hid (outN qq E (i + 1) = putE O e f) := Lib.hid hsu
            obtain ⟨⟨qo, co, hv⟩, hOw, -, -⟩ := hOi3
            subst hv
            obtain ⟨mo, hmo⟩ : ∃ mo, O.length = mo := ⟨_, rfl⟩
            rw [hmo] at hOw HOi3 ⊢
            have hml : mo ≤ 4000 := by have := HOlen.out; omega
            rcases mo with _ | m0
            · have h0 : O = [] := List.length_eq_zero_iff.1 hmo
              have HEq : Hid (O ++ [(e, f)] = outN qq E (i + 1)) := Lib.hid (by rw [HSu.out, h0]; rfl)
              clear h0 hmo hsu
              have HO4 := Lib.hid hOw
              have hIn : PairsIn .i64 (some ⟨u3.heap.size, 0, none⟩) 1 1 [(e, f)] (u3.alloc (.cells #[.int .i64 e, .int .i64 f] 80)) := pair_oneR' (heap_alloc_new u3 _)
              have HIn := Lib.hid hIn
              have HO5 := Lib.hid (hOw.alloc (.cells #[.int .i64 e, .int .i64 f] 80))
              have HSz5 : Hid (w.heap.size ≤ (u3.alloc (.cells #[.int .i64 e, .int .i64 f] 80)).heap.size) := Lib.hid (by have := HWu3.out.size; simp; omega)
              have HOm : Hid (O.length ≤ 4000) := Lib.hid (by have := HOlen.out; omega)
              clear hIn hOw
              go_wp2_with (at_builtin; refine wpList_append_p spanTR rfl _ _ rfl rfl w.heap.size _ O (some ⟨u3.heap.size, 0, none⟩) 1 1 [(e, f)] rfl rfl HO5.out HIn.out (by intro h; cases h) (by have := HOm.out; omega) (by simp) HSz5.out ?_)
              intro v' u4 hg4
              have hfin : OutI w.heap.size (.slice (some ⟨ql, 0, none⟩) 0 0) wl (O ++ [(e, f)]) v' u4 := OutI.grew (HOi3.out.below (alloc_below u3 _)) hg4 (by simp)
              rw [HEq.out] at hfin
              have HFin := Lib.hid hfin
              clear hg4 hfin
              go_wp2_with fail
              go_roundw
              case rel => exact ⟨i + 1, by omega, by go_num, HFin⟩
              case measure => simp [intOf]; omega
            · obtain ⟨y, hy⟩ : ∃ y, O[m0]? = some y := ⟨_, List.getElem?_eq_getElem (by omega)⟩
              have hpl := putE_last O e f m0 y hmo hy
              have hyc := ((OwnP.at0 hOw).2 m0 y hy).2
              have hyb : ∃ cs, u3.heap[qo]? = some (.cells cs 80 (0, 0)) := by
                rcases hOw.2 with ⟨e5, -⟩ | ⟨g5, cap5, cur5, e5, -, hg5, -⟩
                · cases e5
                · injection e5 with e6 _ _
                  injection e6 with e6
                  injection e6 with e6 _ _
                  subst e6
                  exact ⟨cur5, hg5⟩
              obtain ⟨cs5, hcs⟩ := hyb
              have fz : u3.frozen? ⟨qo, m0 * 2 + 1, none⟩ = false := frozen_block hcs _
              obtain ⟨mo, hmm⟩ : ∃ mo, m0 + 1 = mo := ⟨_, rfl⟩
              rw [hmm] at hmo hml HOi3 hOw ⊢
              have q3 : (mo : Int) - 1 = (m0 : Int) := by omega
              have q4 : 0 < mo := by omega
              have q5 : decide (0 < mo) = true := decide_eq_true q4
              have q6 : (0 : Int) < (mo : Int) := by omega
              have q8 : m0 < mo := by omega
              have q9 : (m0 : Int) < (mo : Int) := by omega
              have q7 : IntKind.i64.wrap (m0 : Int) = (m0 : Int) := by rw [IntKind.wrap_i64]; omega
              obtain ⟨y1, y2⟩ := y
              simp only at hyc hpl
              by_cases hye : y2 = e
              · rw [if_pos hye] at hpl
                have qe1 : (y2 == e) = true := by simp [hye]
                have h := HOi3.out
                rw [← hmo] at h
                have h := h.set (y1, y2) f hy
                rw [hmo, show O.set m0 (y1, f) = outN qq E (i + 1) by rw [HSu.out, hpl]] at h
                have HFin := Lib.hid h
                clear h hpl hy hye hmo hmm hOw hsu hcs
                go_wp2_with fail
                go_roundw
                case rel => exact ⟨i + 1, by omega, by go_num, HFin⟩
                case measure => simp [intOf]; omega
              · rw [if_neg hye] at hpl
                have qe1 : (y2 == e) = false := by simp [hye]
                have HEq : Hid (O ++ [(e, f)] = outN qq E (i + 1)) := Lib.hid (by rw [HSu.out, hpl])
                clear hpl hy hye hmo hmm hsu hcs fz
                have HO4 := Lib.hid hOw
                have hIn : PairsIn .i64 (some ⟨u3.heap.size, 0, none⟩) 1 1 [(e, f)] (u3.alloc (.cells #[.int .i64 e, .int .i64 f] 80)) := pair_oneR' (heap_alloc_new u3 _)
                have HIn := Lib.hid hIn
                have HO5 := Lib.hid (hOw.alloc (.cells #[.int .i64 e, .int .i64 f] 80))
                have HSz5 : Hid (w.heap.size ≤ (u3.alloc (.cells #[.int .i64 e, .int .i64 f] 80)).heap.size) := Lib.hid (by have := HWu3.out.size; simp; omega)
                have HOm : Hid (O.length ≤ 4000) := Lib.hid (by have := HOlen.out; omega)
                clear hIn hOw
                go_wp2_with (at_builtin; refine wpList_append_p spanTR rfl _ _ rfl rfl w.heap.size _ O (some ⟨u3.heap.size, 0, none⟩) 1 1 [(e, f)] rfl rfl HO5.out HIn.out (by intro h; cases h) (by have := HOm.out; omega) (by simp) HSz5.out ?_)
                intro v' u4 hg4
                have hfin : OutI w.heap.size (.slice (some ⟨ql, 0, none⟩) 0 0) wl (O ++ [(e, f)]) v' u4 := OutI.grew (HOi3.out.below (alloc_below u3 _)) hg4 (by simp)
                rw [HEq.out] at hfin
                have HFin := Lib.hid hfin
                clear hg4 hfin
                go_wp2_with fail
                go_roundw
                case rel => exact ⟨i + 1, by omega, by go_num, HFin⟩
                case measure => simp [intOf]; omega
        · have hd : decide ((i : Int) + 1 < (ne : Int)) = false := decide_eq_false (by omega)
          obtain rfl : i = ne - 1 := by omega
          have hfin := HOi.out.2.1
          rw [← HBs.out] at hfin
          have HF1 := Lib.hid (And.intro hfin (HWu.out u HOi.out.2.2.1))
          clear hfin HOi
          go_wp2_with fail
          rw [← HP.out]
          exact ⟨_, rfl, HF1.out.1, HF1.out.2⟩
end Go.Proofs.Ytgagkmlkoeceiaa.H
