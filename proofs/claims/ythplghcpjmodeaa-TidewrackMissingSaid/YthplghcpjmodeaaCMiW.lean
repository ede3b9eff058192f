/- TidewrackMissing: of a range of lines each is at hand, or missing; when these are put, none is. -/
import Derived.Test.YthplghcpjmodeaaCMiM
import Derived.Test.YthplghcpjmodeaaHMis
namespace Go.Proofs.Ythplghcpjmodeaa.C
open Go.RowKit Go.Maps Go.Proofs.Ythplghcpjmodeaa.H
open Go.Proofs.Ythplghcpjmodeaa.W (OwnI IntsIn)

/-- a cache from a world on: of the blocks that were there only these change -/
def KC (c : Nat) (x : Ca) (M0 : List Nat) (w0 w : World) : Prop := ∃ M G, Ch c M G x w ∧ KeepB M0 w0 w ∧ ∀ p ∈ M, p ∈ M0 ∨ w0.heap.size ≤ p
theorem KC.put {c : Nat} {x : Ca} {M0 : List Nat} {w0 w : World} (h : KC c x M0 w0 w) (i : Int) (hi : -9223372036854775808 ≤ i ∧ i ≤ 9223372036854775807) :
    Calls Try.prog 16 #[.pointer (some ⟨c, 0, none⟩), .int .i64 i, .slice none 0 0] w fun r w' => r = .returned (.tuple #[.int .i64 (putC x i []).2.1, .bool (putC x i []).2.2]) ∧ KC c (putC x i []).1 M0 w0 w' := by
  obtain ⟨M, G, h1, h2, h3⟩ := h
  refine (put_any i hi none 0 0 [] w h1 (no_pairs _ _) (fun _ => rfl) (by decide) (fun p o e => by cases e)).mono ?_
  rintro r w' ⟨M', G', rfl, h5, h6, h7, h8⟩
  refine ⟨rfl, M', G', h5, ⟨h6.os.trans h2.os, h6.tape.trans h2.tape, h6.output.trans h2.output, Nat.le_trans h2.size h6.size, fun p hp hm => (h6.block p (Nat.lt_of_lt_of_le hp h2.size) (fun h9 => (h3 p h9).elim hm (fun h => by omega))).trans (h2.block p hp hm)⟩, fun p hp => (h7 p hp).elim (h3 p) (fun h => .inr (Nat.le_trans h2.size h))⟩
theorem KC.below {c : Nat} {x : Ca} {M0 : List Nat} {w0 w w' : World} (h : KC c x M0 w0 w) (hb : Below w.heap.size w w') : KC c x M0 w0 w' := by
  obtain ⟨M, G, h1, h2, h3⟩ := h
  exact ⟨M, G, h1.below hb, h2.trans (KeepB.of_below hb), h3⟩
theorem KC.nest {c : Nat} {x : Ca} {M0 M1 : List Nat} {w0 w1 w : World} (h : KC c x M1 w1 w) (hk : KeepB M0 w0 w1) (hM : ∀ p ∈ M1, p ∈ M0 ∨ w0.heap.size ≤ p) : KC c x M0 w0 w := by
  obtain ⟨M, G, h1, h2, h3⟩ := h
  refine ⟨M, G, h1, ⟨h2.os.trans hk.os, h2.tape.trans hk.tape, h2.output.trans hk.output, Nat.le_trans hk.size h2.size, fun p hp hm => (h2.block p (Nat.lt_of_lt_of_le hp hk.size) (fun h9 => (hM p h9).elim hm (fun h => by omega))).trans (hk.block p hp hm)⟩, fun p hp => (h3 p hp).elim (hM p) (fun h => .inr (Nat.le_trans hk.size h))⟩
theorem KC.peek {c : Nat} {x : Ca} {M0 : List Nat} {w0 w : World} (h : KC c x M0 w0 w) (i : Int) (hi : -9223372036854775808 ≤ i ∧ i ≤ 9223372036854775807) :
    Calls Try.prog 17 #[.pointer (some ⟨c, 0, none⟩), .int .i64 i] w fun r w' => ∃ a n cc, r = .returned (.tuple #[.slice a n cc, .bool (findC x.L i).isSome]) ∧ KC c x M0 w0 w' := by
  obtain ⟨M, G, h1, h2, h3⟩ := h
  refine (peek_any i hi w h1).mono ?_
  rintro r w' ⟨v, rfl, h4, h5⟩
  obtain ⟨a, cc, rfl, -⟩ := h4.shape
  exact ⟨a, _, cc, rfl, M, G, h1.below h5, h2.trans (KeepB.of_below h5), h3⟩
theorem KC.nodup {c : Nat} {x : Ca} {M0 : List Nat} {w0 w : World} (h : KC c x M0 w0 w) : (nums x).Nodup := by
  obtain ⟨M, G, ⟨m, e, ns, h1, h2, -⟩, -⟩ := h
  unfold nums
  rw [← h2, List.map_map]
  exact h1.num
theorem KC.keep {c : Nat} {x : Ca} {M0 : List Nat} {w0 w : World} (h : KC c x M0 w0 w) : KeepB M0 w0 w := h.choose_spec.choose_spec.2.1
theorem KC.one {c : Nat} {x : Ca} {M0 : List Nat} {W w0 w : World} (h : KC c x M0 w0 w) (hM : ∀ p ∈ M0, W.heap.size ≤ p) (hb : Below W.heap.size W w0) : OneC c x W w := by
  obtain ⟨M, G, h1, h2, h3⟩ := h
  exact ⟨M, G, h1, fun p hp => (h3 p hp).elim (hM p) (fun h => Nat.le_trans hb.size h), h2.below hM hb hb.size⟩
/-- what is at hand, when the first spans were put, and numbers of the next below z -/
def MsS (c : Nat) (x0 : Ca) (M0 : List Nat) (D : List Sp) (x1 z : Int) (w0 w : World) : Prop := ∃ y, KC c y M0 w0 w ∧ Roomy y ∧ ∀ v, v ∈ nums y ↔ v ∈ nums x0 ∨ mem v D ∨ (x1 ≤ v ∧ v < z)
theorem MsS.put {c : Nat} {x0 : Ca} {M0 : List Nat} {D : List Sp} {x1 z : Int} {w0 w : World} (h : MsS c x0 M0 D x1 z w0 w) (hz : 0 ≤ z ∧ z < 47) (hx : x1 ≤ z) :
    Calls Try.prog 16 #[.pointer (some ⟨c, 0, none⟩), .int .i64 z, .slice none 0 0] w fun r w' => r = .returned (.tuple #[.int .i64 0, .bool false]) ∧ MsS c x0 M0 D x1 (z + 1) w0 w' := by
  obtain ⟨y, h1, h2, h3⟩ := h
  obtain ⟨e1, e2, e3⟩ := put_room h1.nodup h2 hz
  refine (h1.put z (by omega)).mono ?_
  rintro r w' ⟨rfl, h4⟩
  rw [e1]
  refine ⟨rfl, _, h4, e2, fun v => ?_⟩
  rw [e3, h3]
  constructor
  · rintro ((h | h | h) | h)
    · exact .inl h
    · exact .inr (.inl h)
    · exact .inr (.inr ⟨h.1, by omega⟩)
    · exact .inr (.inr ⟨by omega, by omega⟩)
  · rintro (h | h | h)
    · exact .inl (.inl h)
    · exact .inl (.inr (.inl h))
    · by_cases e : v = z
      · exact .inr e
      · exact .inl (.inr (.inr ⟨h.1, by omega⟩))
theorem MsS.peek {c : Nat} {x0 : Ca} {M0 : List Nat} {D : List Sp} {x1 z : Int} {w0 w : World} (h : MsS c x0 M0 D x1 z w0 w) (hi : 0 ≤ z ∧ z < 47) (h1 : z ∉ nums x0) (h2 : ¬ mem z D) :
    Calls Try.prog 17 #[.pointer (some ⟨c, 0, none⟩), .int .i64 z] w fun r w' => ∃ a n cc, r = .returned (.tuple #[.slice a n cc, .bool false]) ∧ MsS c x0 M0 D x1 z w0 w' := by
  obtain ⟨y, h3, h4, h5⟩ := h
  have hn : findC y.L z = none := find_none _ _ (fun e he e9 => by
    have h6 := (h5 z).1 (List.mem_map.2 ⟨e, he, e9⟩)
    rcases h6 with h6 | h6 | h6
    · exact h1 h6
    · exact h2 h6
    · omega)
  refine (h3.peek z (by omega)).mono ?_
  rintro r w' ⟨a, n, cc, rfl, h6⟩
  rw [hn]
  exact ⟨a, n, cc, rfl, y, h6, h4, h5⟩
theorem len_le_tot : ∀ {l : List Sp} {b : Int}, Norm b l → (l.length : Int) ≤ tot l
  | [], _, _ => by simp [tot]
  | x :: l, b, h => by
    have := len_le_tot h.2.2
    have := h.2.1
    simp only [List.length_cons, tot]
    omega
theorem ChPost.wide {b : Nat} {M : List Nat} {out : List Sp} {w w1 w' : World} {e : Ending} (h : ChPost b M out w1 e w') (hb : Below w.heap.size w w1) : ChPost b M out w e w' := by
  obtain ⟨he, M', h1, h2, h3⟩ := h
  exact ⟨he, M', h1, (KeepB.of_below hb).trans h2, fun p hp => (h3 p hp).imp id (fun h => Nat.le_trans hb.size h)⟩
/-- from a later world on, in which more lies -/
theorem MsS.fresh {c : Nat} {x0 : Ca} {M0 : List Nat} {D : List Sp} {x1 : Int} {w0 w w5 : World} (h : MsS c x0 M0 D 0 0 w0 w) (hb : Below w.heap.size w w5) :
    ∃ Mi, (∀ p ∈ Mi, p < w.heap.size) ∧ MsS c x0 Mi D x1 x1 w5 w5 ∧ KeepB M0 w0 w5 ∧ ∀ p ∈ Mi, p ∈ M0 ∨ w0.heap.size ≤ p := by
  obtain ⟨y, ⟨M, G, h1, h2, h3⟩, h4, h5⟩ := h
  refine ⟨M, h1.lt.1, ⟨y, ⟨M, G, h1.below hb, KeepB.refl _ _, fun p hp => .inl hp⟩, h4, fun v => ?_⟩, h2.trans (KeepB.of_below hb), h3⟩
  rw [h5]
  constructor
  · rintro (h | h | h)
    · exact .inl h
    · exact .inr (.inl h)
    · omega
  · rintro (h | h | h)
    · exact .inl h
    · exact .inr (.inl h)
    · omega
theorem MsS.nest {c : Nat} {x0 : Ca} {M0 Mi : List Nat} {l : List Sp} {j : Nat} {x1 x2 : Int} {w0 w5 w : World} (h : MsS c x0 Mi (l.take j) x1 x2 w5 w) (hx : l[j]? = some (x1, x2)) (hk : KeepB M0 w0 w5) (hM : ∀ p ∈ Mi, p ∈ M0 ∨ w0.heap.size ≤ p) : MsS c x0 M0 (l.take (j + 1)) 0 0 w0 w := by
  obtain ⟨y, h1, h2, h3⟩ := h
  refine ⟨y, h1.nest hk hM, h2, fun v => ?_⟩
  rw [h3, mem_take v hx]
  unfold inx
  constructor
  · rintro (h | h | h)
    · exact .inl h
    · exact .inr (.inl (.inl h))
    · exact .inr (.inl (.inr h))
  · rintro (h | (h | h) | h)
    · exact .inl h
    · exact .inr (.inl h)
    · exact .inr (.inr h)
    · omega
set_option maxRecDepth 100000 in
set_option maxHeartbeats 16000000 in
theorem missing_walk (a0 : Option Addr) (n c0 : Nat) (zs : List Int) (m1 m2 : Int) (W : World) (h : IntsIn a0 n zs W ∧ n ≤ c0 ∧ (c0 : Int) ≤ 9223372036854775807) :
    Calls Try.prog 8 #[.slice a0 n c0, .int .i64 m1, .int .i64 m2] W (AwkPost W) := by
  obtain ⟨P, hP⟩ : ∃ P, AwkPost W = P := ⟨_, rfl⟩
  rw [hP]
  have HP := Lib.hid hP
  have HAr := Lib.hid h.1
  obtain ⟨F, hF0, hF31⟩ := and_small m1 31 (by decide)
  have hF : bits .and .i64 m1 31 = (F : Int) := hF0
  obtain ⟨Z, hZ0, hZ15⟩ := and_small m2 15 (by decide)
  have hZ : bits .and .i64 m2 15 = (Z : Int) := hZ0
  have hnc := h.2.1
  have htop := h.2.2
  obtain ⟨N, hN⟩ : ∃ N, min n 40 = N := ⟨_, rfl⟩
  have HNn : Hid (N ≤ n ∧ N ≤ 40 ∧ (N = n ∨ N = 40)) := Lib.hid ⟨by omega, by omega, by omega⟩
  have hFI : (F : Int) ≤ 31 := by omega
  have hZI : (Z : Int) ≤ 15 := by omega
  have HNw := Lib.hid (OneC.new 64 (by omega) W W (Below.refl _ _))
  clear hP h hN hF0 hZ0
  go_enter Try.func8, Try.ntmps8
  go_wp2_with fail
  refine HNw.out.mono ?_
  rintro r W2 ⟨c, rfl, h2⟩
  have HT : Hid (∃ x, OneC c x W W2 ∧ Roomy x) := Lib.hid ⟨_, h2, rfl, fun z hz => by simp at hz⟩
  clear h2 HNw
  go_upto_block 0 with fail
  go_cut [] (fun wx => Hid (∃ x, OneC c x W wx ∧ Roomy x))
  case first =>
    go_wp2_with fail
    go_loopw [8] (fun i wr => ∃ k : Nat, i = .int .i64 (k : Int) ∧ k ≤ N ∧ Hid (∃ x, OneC c x W wr ∧ Roomy x)) (fun i _ => N - (intOf i).toNat)
    case atStart => exact ⟨0, rfl, Nat.zero_le _, HT⟩
    case round =>
      obtain ⟨k, rfl, hk, H5⟩ := hrel
      clear HT
      by_cases hlt : k < N
      · have hn1 := HNn.out.1
        have hn2 := HNn.out.2.1
        have hd : decide (k < n) = true := decide_eq_true (by omega)
        have hd2 : decide (k < 40) = true := decide_eq_true (by omega)
        have hkI : (k : Int) < n := by omega
        have hkI2 : (k : Int) < 40 := by omega
        have hkz : k < zs.length := by rw [← HAr.out.1]; omega
        obtain ⟨b, off, rfl, hb, hi⟩ := HAr.out.2.resolve_left (by intro e9; rw [e9] at hkz; simp at hkz)
        obtain ⟨x, hO, hR⟩ := H5.out
        have k0 := (hO.bel.cell (p := ⟨b, off + k, none⟩) hb).trans (hi k hkz)
        try simp only at k0
        obtain ⟨zk, hzk⟩ : ∃ zk, zs.getD k 0 = zk := ⟨_, rfl⟩
        rw [hzk] at k0
        obtain ⟨Kn, hKn0, hK31⟩ := and_small zk 31 (by decide)
        have hKn : bits .and .i64 zk 31 = (Kn : Int) := hKn0
        have HPu := Lib.hid (hO.put (Below.refl _ _) (Kn : Int) (by omega) none 0 0 [] (no_pairs _ _) (fun _ => rfl) (by decide) (fun p o e => by cases e))
        have HRm := Lib.hid (put_room (i := (Kn : Int)) hO.nodup.1 hR ⟨by omega, by omega⟩).2.1
        clear hb hi hkz hzk hO hR H5 hKn0
        go_wp2_with fail
        refine HPu.out.mono ?_
        rintro r w3 ⟨rfl, h3⟩
        have H3 : Hid (∃ x, OneC c x W w3 ∧ Roomy x) := Lib.hid ⟨_, h3, HRm.out⟩
        clear h3 HPu HRm
        go_wp2_with fail
        go_roundw
        case rel => exact ⟨k + 1, by go_num, by omega, H3⟩
        case measure => simp [intOf]; omega
      · obtain rfl : k = N := by omega
        rcases HNn.out.2.2 with he | he
        · subst he
          have hd : decide (k < k) = false := by simp
          go_wp2_with fail
          go_meet
          exact H5
        · subst he
          have hn1 := HNn.out.1
          by_cases hkn : 40 < n
          · have hd : decide (40 < n) = true := decide_eq_true hkn
            have hkI : (40 : Int) < n := by omega
            go_wp2_with fail
            go_meet
            exact H5
          · have hd : decide (40 < n) = false := decide_eq_false hkn
            have hkI : ¬ (40 : Int) < n := by omega
            go_wp2_with fail
            go_meet
            exact H5
  clear HT
  obtain ⟨x0, hx0, hR0⟩ := hcut.out
  have hbW := hx0.bel
  obtain ⟨M0, G0, hC0, hM0, -⟩ := hx0
  have hM0l := hC0.lt.1
  -- the box of the range, and the set
  obtain ⟨wa, hwa⟩ : ∃ wa, wa = wc.alloc (.cells #[.int .i64 (F : Int), .int .i64 ((F : Int) + Z)] 56) := ⟨_, rfl⟩
  obtain ⟨xb, hxb⟩ : ∃ xb, xb = wc.heap.size := ⟨_, rfl⟩
  obtain ⟨ws, hws⟩ : ∃ ws, ws = wa.alloc (.cells #[.slice none 0 0] 60) := ⟨_, rfl⟩
  obtain ⟨s, hs⟩ : ∃ s, s = wa.heap.size := ⟨_, rfl⟩
  have hba : Below wc.heap.size wc wa := by rw [hwa]; exact alloc_below _ _
  have hbs : Below wa.heap.size wa ws := by rw [hws]; exact alloc_below _ _
  have hxa : ws.heap[xb]? = some (.cells #[.int .i64 (F : Int), .int .i64 ((F : Int) + Z)] 56 (0, 0)) := by
    have h9 : wa.heap[xb]? = some (.cells #[.int .i64 (F : Int), .int .i64 ((F : Int) + Z)] 56 (0, 0)) := by rw [hwa, hxb]; exact heap_alloc_new _ _
    rw [hbs.block xb (Array.getElem?_eq_some_iff.1 h9).1]
    exact h9
  have hsl : wc.heap.size ≤ s := by rw [hs]; exact hba.size
  have hSt : St s [s] [] ws := by rw [hs, hws]; exact St.new wa
  have hbcs : Below wc.heap.size wc ws := hba.trans (hbs.mono hba.size)
  have HSp := Lib.hid (cspans_any ws (hC0.below hbcs))
  have HSt := Lib.hid hSt
  have HC0 := Lib.hid hC0
  have HM0 : Hid (∀ p ∈ M0, W.heap.size ≤ p ∧ p < wc.heap.size) := Lib.hid (fun p hp => ⟨hM0 p hp, hM0l p hp⟩)
  have HBW := Lib.hid hbW
  have HBcs := Lib.hid hbcs
  have HXa := Lib.hid hxa
  have HSl := Lib.hid hsl
  have HR0 := Lib.hid hR0
  have HWa := Lib.hid hwa
  have HXb := Lib.hid hxb
  have HWs := Lib.hid hws
  have HSs := Lib.hid hs
  have HSz : Hid (s < ws.heap.size ∧ xb < wa.heap.size ∧ wc.heap.size ≤ xb) := Lib.hid ⟨hSt.lt s (by simp), by rw [hwa, hxb]; simp, by rw [hxb]; exact Nat.le_refl _⟩
  clear hbW hC0 hM0 hM0l hwa hxb hws hs hba hbs hxa hsl hSt hbcs hR0 hcut
  try dsimp only
  rename_i K0 hK0
  refine hK0 _ _ ?_
  clear hK0
  go_upto_region 10 with fail
  rw [← HWa.out, ← HXb.out]
  go_upto_region 11 with fail
  rw [← HWs.out, ← HSs.out]
  go_wp2_with fail
  refine HSp.out.mono ?_
  rintro r w1 ⟨v1, rfl, ho1, hb1⟩
  obtain ⟨a1, c1, rfl, hP1, hA1, -⟩ := ho1.shape
  obtain ⟨S, hS⟩ : ∃ S, spansC x0.L = S := ⟨_, rfl⟩
  rw [hS] at hP1 ⊢
  have hnS : Nm S := by rw [← hS]; exact Nm.spansC x0
  have hpl : S.length ≤ 65537 := by
    obtain ⟨m, e, ns, h9, h10, -⟩ := HC0.out
    have h11 := spansC_len x0
    have h12 : x0.L.length = ns.length := by rw [← h10]; simp
    have h13 := h9.few
    rw [← hS]
    omega
  have HAd := Lib.hid (add_any (l := []) a1 S.length c1 S w1 (HSt.out.below hb1) Nm.nil (by simp; omega) hP1 (fun g off e9 hm => by
    have h9 := (hA1 g off e9).1
    have h10 : g = s := by simpa using hm
    have h11 := HSz.out.1
    omega))
  rw [copy_eq hnS] at HAd
  have HMm : Hid (∀ v, mem v S ↔ v ∈ nums x0) := Lib.hid (fun v => by rw [← hS]; exact mem_spansC v HR0.out.within)
  have HnS := Lib.hid hnS
  have HPl := Lib.hid hpl
  have HB1 := Lib.hid hb1
  clear ho1 hP1 hA1 hS hnS hpl hb1 HSp
  obtain ⟨Sn, hSn⟩ : ∃ n, S.length = n := ⟨_, rfl⟩
  rw [hSn] at HAd ⊢
  clear hSn
  go_wp2_with fail
  refine HAd.out.mono ?_
  rintro r w2 ⟨rfl, Ms, hS2, hK2, hM2⟩
  have hb2 : Below wc.heap.size wc w2 := by
    have h9 : Below wc.heap.size wc w1 := HBcs.out.trans (HB1.out.mono HBcs.out.size)
    exact hK2.below (fun p hp => by rw [show p = s by simpa using hp]; exact HSl.out) h9 h9.size
  have hMs : ∀ p ∈ Ms, wc.heap.size ≤ p := fun p hp => (hM2 p hp).elim (fun h => by rw [show p = s by simpa using h]; exact HSl.out) (fun h => Nat.le_trans (Nat.le_trans HBcs.out.size HB1.out.size) h)
  have hx2 : w2.heap[xb]? = some (.cells #[.int .i64 (F : Int), .int .i64 ((F : Int) + Z)] 56 (0, 0)) := by
    have hxs : xb < ws.heap.size := (Array.getElem?_eq_some_iff.1 HXa.out).1
    rw [hK2.block xb (Nat.lt_of_lt_of_le hxs HB1.out.size) (fun hm => by
      have h9 : xb = s := by simpa using hm
      have := HSz.out.2.1
      have h10 := HSs.out
      omega), HB1.out.block xb hxs]
    exact HXa.out
  obtain ⟨vs2, hSv2⟩ := hS2
  have HMi := Lib.hid (missing_any hSv2 HnS.out (by have := HPl.out; omega) ((F : Int), (F : Int) + Z))
  have HS2 : Hid (St s Ms S w2) := Lib.hid ⟨vs2, hSv2⟩
  have HB2 := Lib.hid hb2
  have HMs := Lib.hid hMs
  have HX2 := Lib.hid hx2
  have x0c := cell_block hx2 0
  have x1c := cell_block hx2 1
  clear hSv2 hK2 hM2 hb2 hMs hx2 HAd HSt HXa HWa HXb HWs HSs HB1
  go_wp2_with fail
  refine HMi.out.mono ?_
  rintro r w3 ⟨v3, rfl, ho3, hb3⟩
  obtain ⟨a3, c3, rfl, hP3, hA3, -⟩ := ho3.shape
  obtain ⟨D, hD⟩ : ∃ D, missS S ((F : Int), (F : Int) + Z) = D := ⟨_, rfl⟩
  rw [hD] at hP3 ⊢
  have hcx : cnt ((F : Int), (F : Int) + Z) = ((F : Int), (F : Int) + Z) := cnt_of (by show _ ≤ (F : Int); omega) (by show (F : Int) ≤ F + Z; omega) (by show (F : Int) + Z ≤ _; omega)
  have HDm : Hid (∀ v, mem v D ↔ ((F : Int) ≤ v ∧ v < F + Z) ∧ v ∉ nums x0) := Lib.hid (fun v => by
    rw [← hD, missS_mem v HnS.out, hcx, HMm.out v]
    rfl)
  have hnD : Nm D := by rw [← hD]; exact HnS.out.miss _
  obtain ⟨pm, hpm⟩ : ∃ n, D.length = n := ⟨_, rfl⟩
  rw [hpm] at hP3 ⊢
  have HTot : Hid (tot D + tot (inS S ((F : Int), (F : Int) + Z)) = Z) := Lib.hid (by rw [← hD]; exact tot_both HnS.out hF31 hZ15)
  have hC3 : Ch c M0 G0 x0 w3 := HC0.out.below (HB2.out.trans (hb3.mono HB2.out.size))
  have HS0 : Hid (MsS c x0 M0 (D.take 0) 0 0 w3 w3) := Lib.hid ⟨x0, ⟨M0, G0, hC3, KeepB.refl _ _, fun p hp => .inl hp⟩, HR0.out, fun v => by simp [mem]; omega⟩
  have hpmD : pm ≤ 70000 := by
    have h9 := nodup_len
    have h10 := len_le_tot hnD.1
    have h11 := HTot.out
    have h12 := (HnS.out.in_ ((F : Int), (F : Int) + Z)).tot.1
    omega
  have HP3 := Lib.hid hP3
  have HA3 : Hid (∀ b off, a3 = some ⟨b, off, none⟩ → b ∉ M0) := Lib.hid (fun b off e9 hm => by
    have h9 := (hA3 b off e9).1
    have h10 := (HM0.out b hm).2
    have h11 := HB2.out.size
    omega)
  have HnD := Lib.hid hnD
  have HPm := Lib.hid hpm
  have HB3 := Lib.hid hb3
  clear ho3 hP3 hA3 hD hcx hnD hpm hC3 hb3 HMi
  go_wp2_with fail
  clear x0c x1c
  go_loopw [11, 58] (fun sv i wr => ∃ j : Nat, i = .int .i64 (j : Int) ∧ j ≤ pm ∧ sv = .int .i64 (tot (D.take j)) ∧ Hid (MsS c x0 M0 (D.take j) 0 0 w3 wr)) (fun _ i _ => pm - (intOf i).toNat)
  case atStart => exact ⟨0, rfl, Nat.zero_le _, rfl, HS0⟩
  case round =>
    obtain ⟨j, rfl, hj, rfl, H5⟩ := hrel
    by_cases hjp : j < pm
    · have hd3 : decide (j < pm) = true := decide_eq_true hjp
      have hjI : (j : Int) < pm := by omega
      have hjS : j < D.length := by rw [HPm.out]; exact hjp
      obtain ⟨⟨x1, x2⟩, hxj⟩ : ∃ x, D[j]? = some x := ⟨_, List.getElem?_eq_getElem hjS⟩
      obtain ⟨gb, go, rfl, hgb, hgi⟩ := HP3.out.at_.resolve_left (by intro e9; rw [e9] at hjS; simp at hjS)
      have hk2 := hgi j _ hxj
      have hgk : wr.heap[gb]? = w3.heap[gb]? := by
        obtain ⟨y9, h9, -⟩ := H5.out
        exact h9.keep.block gb hgb (HA3.out gb go rfl)
      have k0 := (World.cell?_of_block (a := ⟨gb, go + j * 2, none⟩) hgk).trans hk2.1
      have k1 := (World.cell?_of_block (a := ⟨gb, go + j * 2 + 1, none⟩) hgk).trans hk2.2
      try simp only at k0 k1
      have htk := tot_take_succ D j _ hxj
      have htl := tot_take_le (l := D) (k := j) HnD.out.1 HnD.out.2
      have htl2 := tot_take_le (l := D) (k := j + 1) HnD.out.1 HnD.out.2
      have hin := (HnS.out.in_ ((F : Int), (F : Int) + Z)).tot.1
      have htt := HTot.out
      have hxm : (x1, x2) ∈ D := List.mem_of_getElem? hxj
      have hxn := Norm.in_ HnD.out.1 _ hxm
      have hx12 : x1 < x2 := hxn.2
      have hxl := (HDm.out x1).1 ((mem_iff x1 D).2 ⟨_, hxm, Int.le_refl _, hx12⟩)
      have hxh := (HDm.out (x2 - 1)).1 ((mem_iff (x2 - 1) D).2 ⟨_, hxm, by show x1 ≤ x2 - 1; omega, by show x2 - 1 < x2; omega⟩)
      have hx1 : (F : Int) ≤ x1 := hxl.1.1
      have hx2 : x2 ≤ F + Z := by have := hxh.1.2; omega
      have HXm : Hid (∀ z, x1 ≤ z → z < x2 → z ∉ nums x0 ∧ ¬ mem z (D.take j)) := Lib.hid (fun z h1 h2 => ⟨((HDm.out z).1 ((mem_iff z D).2 ⟨_, hxm, h1, h2⟩)).2, fun h3 => by
        have h4 := Norm.ahead HnD.out.1 hxj z h3
        have h5 : z < x1 := h4
        omega⟩)
      simp only at htk
      obtain ⟨T, hT⟩ : ∃ T, tot (D.take j) = T := ⟨_, rfl⟩
      rw [hT] at htk htl ⊢
      have hT0 : 0 ≤ T := htl.1
      have hT1 : T + (x2 - x1) ≤ 65536 := by rw [← htk]; omega
      have HTk := Lib.hid htk
      have HXj := Lib.hid hxj
      obtain ⟨s5, hs5⟩ : ∃ s5, s5 = wr.heap.size := ⟨_, rfl⟩
      obtain ⟨w5, hw5⟩ : ∃ w5, w5 = wr.alloc (.cells #[.int .i64 x1, .int .i64 x2] 56) := ⟨_, rfl⟩
      have hx5 : w5.heap[s5]? = some (.cells #[.int .i64 x1, .int .i64 x2] 56 (0, 0)) := by rw [hw5, hs5]; exact heap_alloc_new _ _
      obtain ⟨Mi, hMi1, hMi2, hMi3, hMi4⟩ := H5.out.fresh (x1 := x1) (w5 := w5) (by rw [hw5]; exact alloc_below _ _)
      have HW5 := Lib.hid hw5
      have HS5 := Lib.hid hs5
      have HX5 := Lib.hid hx5
      have HNi : Hid (s5 ∉ Mi ∧ s5 < w5.heap.size) := Lib.hid ⟨fun hm => by have := hMi1 s5 hm; omega, (Array.getElem?_eq_some_iff.1 hx5).1⟩
      have HMi2 := Lib.hid hMi2
      have HMi3 := Lib.hid hMi3
      have HMi4 := Lib.hid hMi4
      have x0c := cell_block hx5 0
      clear hk2 hgk htk htl htl2 hin htt hxm hxn hxl hxh hgb hxj hjS hgi hT hs5 hw5 hx5 hMi1 hMi2 hMi3 hMi4
      go_upto_block 4 with fail
      rw [← HW5.out, ← HS5.out]
      clear H5 HW5 HS5 x0c k0 k1
      go_wp2_with fail
      go_loopw [11, 14] (fun sv v wr => ∃ z : Int, v = .int .i64 z ∧ x1 ≤ z ∧ z ≤ x2 ∧ sv = .int .i64 (T + (z - x1)) ∧ Hid (MsS c x0 Mi (D.take j) x1 z w5 wr)) (fun _ v _ => (x2 - intOf v).toNat)
      case atStart => exact ⟨x1, rfl, by omega, by omega, by go_num, HMi2⟩
      case round =>
        obtain ⟨z, rfl, hz1, hz2, rfl, H6⟩ := hrel
        have e1 : wr.cell? ⟨s5, 1, none⟩ = some (.int .i64 x2) := by
          obtain ⟨y9, h9, -⟩ := H6.out
          exact (World.cell?_of_block (a := ⟨s5, 1, none⟩) (h9.keep.block s5 HNi.out.2 HNi.out.1)).trans (cell_block HX5.out 1)
        by_cases hzx : z < x2
        · have hd6 : decide (z < x2) = true := decide_eq_true hzx
          have hzF : ¬ z < F := by omega
          have hzZ : ¬ (F : Int) + Z ≤ z := by omega
          have HPk := Lib.hid (H6.out.peek (by omega) (HXm.out z hz1 hzx).1 (HXm.out z hz1 hzx).2)
          clear H6
          go_wp2_with fail
          refine HPk.out.mono ?_
          rintro r w6 ⟨sa6, n6, cc6, rfl, h6⟩
          have HPu := Lib.hid (h6.put (by omega) hz1)
          clear h6 HPk
          go_wp2_with fail
          refine HPu.out.mono ?_
          rintro r w7 ⟨rfl, h7⟩
          have H7 := Lib.hid h7
          clear h7 HPu
          go_wp2_with fail
          go_roundw
          case rel => exact ⟨z + 1, by go_num, by omega, by omega, by go_num, H7⟩
          case measure => simp [intOf]; omega
        · obtain rfl : z = x2 := by omega
          have hd6 : decide (z < z) = false := by simp
          have H7 : Hid (MsS c x0 M0 (D.take (j + 1)) 0 0 w3 wr) := Lib.hid (H6.out.nest HXj.out HMi3.out HMi4.out)
          clear H6 hzx
          go_wp2_with fail
          go_roundw
          case rel => exact ⟨j + 1, by go_num, by omega, by rw [HTk.out], H7⟩
          case measure => simp [intOf]; omega
    · obtain rfl : j = pm := by omega
      have hd3 : decide (j < j) = false := by simp
      have hta : D.take j = D := List.take_of_length_le (by rw [HPm.out]; exact Nat.le_refl _)
      rw [hta] at H5 ⊢
      clear hta
      obtain ⟨y, hkc, hry, hmy⟩ := H5.out
      have hkeep := hkc.keep
      have hnd := hkc.nodup
      have hone := hkc.one (W := W) (fun p hp => (HM0.out p hp).1) ((HBW.out.trans (HB2.out.mono HBW.out.size)).trans (HB3.out.mono (Nat.le_trans HBW.out.size HB2.out.size)))
      -- the set t
      obtain ⟨wt, hwt⟩ : ∃ wt, wt = wr.alloc (.cells #[.slice none 0 0] 60) := ⟨_, rfl⟩
      obtain ⟨tb, htb⟩ : ∃ tb, tb = wr.heap.size := ⟨_, rfl⟩
      have hbt : Below wr.heap.size wr wt := by rw [hwt]; exact alloc_below _ _
      have hSt : St tb [tb] [] wt := by rw [htb, hwt]; exact St.new wr
      have HSp := Lib.hid ((hone.below hbt).spans)
      have HOne := Lib.hid hone
      have HSt := Lib.hid hSt
      have HBt := Lib.hid hbt
      have HKp := Lib.hid hkeep
      have HNd := Lib.hid hnd
      have HRy := Lib.hid hry
      have HMy := Lib.hid hmy
      have HWt := Lib.hid hwt
      have HTb := Lib.hid htb
      clear hkc hry hmy hkeep hnd hone hwt htb hbt hSt H5 hjp
      go_upto_region 28 with fail
      rw [← HWt.out, ← HTb.out]
      go_wp2_with fail
      refine HSp.out.mono ?_
      rintro r w6 ⟨v6, rfl, ho6, hb6⟩
      obtain ⟨a6, c6, rfl, hP6, hA6, -⟩ := ho6.shape
      obtain ⟨S', hS'⟩ : ∃ S', spansC y.L = S' := ⟨_, rfl⟩
      rw [hS'] at hP6 ⊢
      have hnS' : Nm S' := by rw [← hS']; exact Nm.spansC y
      have hyl : y.L.length ≤ 65536 := by have := HOne.out.nodup.2; omega
      have hpl' : S'.length ≤ 65536 := by rw [← hS']; exact Nat.le_trans (spansC_len y) hyl
      have HAd := Lib.hid (add_any (l := []) a6 S'.length c6 S' w6 (HSt.out.below hb6) Nm.nil (by simp; omega) hP6 (fun g off e9 hm => by
        have h9 := (hA6 g off e9).1
        have h10 : g = tb := by simpa using hm
        have h11 := HSt.out.lt tb (by simp)
        omega))
      rw [copy_eq hnS'] at HAd
      have HT' : Hid (tot S' = y.L.length) := Lib.hid (by rw [← hS']; exact tot_spansC HNd.out HRy.out.within)
      have HMm' : Hid (∀ v, mem v S' ↔ v ∈ nums y) := Lib.hid (fun v => by rw [← hS']; exact mem_spansC v HRy.out.within)
      have HnS' := Lib.hid hnS'
      have HPl' := Lib.hid hpl'
      have HB6 := Lib.hid hb6
      obtain ⟨Sn, hSn⟩ : ∃ n, S'.length = n := ⟨_, rfl⟩
      rw [hSn] at HAd ⊢
      clear ho6 hP6 hA6 hS' hnS' hpl' hb6 HSp hSn
      go_wp2_with fail
      refine HAd.out.mono ?_
      rintro r w7 ⟨rfl, Mt, hS7, hK7, hM7⟩
      have hb7 : Below wr.heap.size wr w7 := by
        have h9 : Below wr.heap.size wr w6 := HBt.out.trans (HB6.out.mono HBt.out.size)
        exact hK7.below (fun p hp => by rw [show p = tb by simpa using hp, HTb.out]; exact Nat.le_refl _) h9 h9.size
      have hx3 : w3.heap[xb]? = some (.cells #[.int .i64 (F : Int), .int .i64 ((F : Int) + Z)] 56 (0, 0)) := by
        rw [HB3.out.block xb (Array.getElem?_eq_some_iff.1 HX2.out).1]
        exact HX2.out
      have hx9 : wr.heap[xb]? = some (.cells #[.int .i64 (F : Int), .int .i64 ((F : Int) + Z)] 56 (0, 0)) := by
        rw [HKp.out.block xb (Array.getElem?_eq_some_iff.1 hx3).1 (fun hm => by have := (HM0.out xb hm).2; have := HSz.out.2.2; omega)]
        exact hx3
      have hx7 : w7.heap[xb]? = some (.cells #[.int .i64 (F : Int), .int .i64 ((F : Int) + Z)] 56 (0, 0)) := by
        rw [hb7.block xb (Array.getElem?_eq_some_iff.1 hx9).1]
        exact hx9
      have hs7 : St s Ms S w7 := ((HS2.out.below HB3.out).kept HKp.out (fun p hp hm => by have := (HM0.out p hm).2; have := HMs.out p hp; omega)).below hb7
      obtain ⟨vs7, hsv7⟩ := hs7
      have HIn := Lib.hid (in_any hsv7 HnS.out (by have := HPl.out; omega) ((F : Int), (F : Int) + Z))
      have HS7 := Lib.hid hS7
      have HOn7 := Lib.hid (HOne.out.below hb7)
      have HX7 := Lib.hid hx7
      have x0c := cell_block hx7 0
      have x1c := cell_block hx7 1
      clear hK7 hM7 hb7 hx3 hx9 hx7 hsv7 hS7 HAd HSt HWt HTb HBt HB6 HOne HKp
      go_wp2_with fail
      refine HIn.out.mono ?_
      rintro r w8 ⟨v8, rfl, ho8, hb8⟩
      obtain ⟨a8, c8, rfl, hP8, -, -⟩ := ho8.shape
      obtain ⟨I, hI⟩ : ∃ I, inS S ((F : Int), (F : Int) + Z) = I := ⟨_, rfl⟩
      have hnI : Nm I := by rw [← hI]; exact HnS.out.in_ _
      rw [hI] at hP8 HTot ⊢
      obtain ⟨im, him⟩ : ∃ n, I.length = n := ⟨_, rfl⟩
      rw [him] at hP8 ⊢
      obtain ⟨TD, hTD⟩ : ∃ T, tot D = T := ⟨_, rfl⟩
      rw [hTD] at HTot ⊢
      have hTD0 : 0 ≤ TD := by rw [← hTD]; exact HnD.out.tot.1
      have htI0 := hnI.tot.1
      have him9 : im ≤ 70000 := by
        have h10 := len_le_tot hnI.1
        have h11 := HTot.out
        omega
      have HP8 := Lib.hid hP8
      have HnI := Lib.hid hnI
      have HIm := Lib.hid him
      have HB8 := Lib.hid hb8
      clear ho8 hP8 hb8 hI hnI him hTD htI0 HIn x0c x1c
      go_wp2_with fail
      go_loopw [20, 105] (fun sv i wr => ∃ j : Nat, i = .int .i64 (j : Int) ∧ j ≤ im ∧ sv = .int .i64 (tot (I.take j)) ∧ Hid (Below w8.heap.size w8 wr)) (fun _ i _ => im - (intOf i).toNat)
      case atStart => exact ⟨0, rfl, Nat.zero_le _, rfl, Lib.hid (Below.refl _ _)⟩
      case round =>
        obtain ⟨j, rfl, hj, rfl, H6⟩ := hrel
        by_cases hjp : j < im
        · have hd3 : decide (j < im) = true := decide_eq_true hjp
          have hjI : (j : Int) < im := by omega
          have hjS : j < I.length := by rw [HIm.out]; exact hjp
          obtain ⟨⟨x1, x2⟩, hxj⟩ : ∃ x, I[j]? = some x := ⟨_, List.getElem?_eq_getElem hjS⟩
          obtain ⟨gb, go, rfl, hgb, hgi⟩ := HP8.out.at_.resolve_left (by intro e9; rw [e9] at hjS; simp at hjS)
          have hk2 := hgi j _ hxj
          have k0 := (H6.out.cell (p := ⟨gb, go + j * 2, none⟩) hgb).trans hk2.1
          have k1 := (H6.out.cell (p := ⟨gb, go + j * 2 + 1, none⟩) hgb).trans hk2.2
          try simp only at k0 k1
          have htk := tot_take_succ I j _ hxj
          have htl := tot_take_le (l := I) (k := j) HnI.out.1 HnI.out.2
          have htl2 := tot_take_le (l := I) (k := j + 1) HnI.out.1 HnI.out.2
          have htt := HTot.out
          have hxm : (x1, x2) ∈ I := List.mem_of_getElem? hxj
          have hxn := Norm.in_ HnI.out.1 _ hxm
          have hxt := HnI.out.2 _ hxm
          have hx1 : -1152921504606846976 ≤ x1 := hxn.1
          have hx12 : x1 < x2 := hxn.2
          have hx2 : x2 ≤ 1152921504606846976 := hxt
          simp only at htk
          obtain ⟨T, hT⟩ : ∃ T, tot (I.take j) = T := ⟨_, rfl⟩
          rw [hT] at htk htl ⊢
          have hT0 : 0 ≤ T := htl.1
          have hT1 : T + (x2 - x1) ≤ 65536 := by rw [← htk]; omega
          have HTk := Lib.hid htk
          have H7 : Hid (Below w8.heap.size w8 (wr.alloc (.cells #[.int .i64 x1, .int .i64 x2] 56))) := Lib.hid (H6.out.trans ((alloc_below _ _).mono H6.out.size))
          clear hk2 htk htl htl2 htt hxm hxn hxt hgb hxj hjS hgi hT H6
          go_wp2_with fail
          go_roundw
          case rel => exact ⟨j + 1, by go_num, by omega, by rw [HTk.out], H7⟩
          case measure => simp [intOf]; omega
        · obtain rfl : j = im := by omega
          have hd3 : decide (j < j) = false := by simp
          have hta : I.take j = I := List.take_of_length_le (by rw [HIm.out]; exact Nat.le_refl _)
          rw [hta]
          obtain ⟨TI, hTI⟩ : ∃ T, tot I = T := ⟨_, rfl⟩
          have hTI0 : 0 ≤ TI := by rw [← hTI]; exact HnI.out.tot.1
          have hsum : TD + TI = (Z : Int) := by rw [← hTI]; exact HTot.out
          rw [hTI]
          have hb78 := HB8.out.trans (H6.out.mono HB8.out.size)
          have hx9 : wr.heap[xb]? = some (.cells #[.int .i64 (F : Int), .int .i64 ((F : Int) + Z)] 56 (0, 0)) := by
            rw [hb78.block xb (Array.getElem?_eq_some_iff.1 HX7.out).1]
            exact HX7.out
          have x0c := cell_block hx9 0
          have x1c := cell_block hx9 1
          obtain ⟨vt, hvt⟩ := HS7.out.below hb78
          have hm9 := missing_any hvt HnS'.out (by have := HPl'.out; omega) ((F : Int), (F : Int) + Z)
          rw [miss_none HnS'.out (fun v hv => by
            have hcx : cnt ((F : Int), (F : Int) + Z) = ((F : Int), (F : Int) + Z) := cnt_of (by show _ ≤ (F : Int); omega) (by show (F : Int) ≤ F + Z; omega) (by show (F : Int) + Z ≤ _; omega)
            rw [hcx] at hv
            have hv' : (F : Int) ≤ v ∧ v < F + Z := hv
            refine (HMm'.out v).2 ((HMy.out v).2 ?_)
            by_cases h9 : v ∈ nums x0
            · exact .inl h9
            · exact .inr (.inl ((HDm.out v).2 ⟨hv', h9⟩)))] at hm9
          have HM9 := Lib.hid hm9
          have HOn9 := Lib.hid (HOn7.out.below hb78)
          have HSt9 : Hid (SetAt tb Mt S' vt wr) := Lib.hid hvt
          clear hta hTI hb78 hx9 hvt hm9 H6 hjp
          go_wp2_with fail
          refine HM9.out.mono ?_
          rintro r w10 ⟨v10, rfl, ho10, hb10⟩
          obtain ⟨a10, c10, rfl, -, -, -⟩ := ho10.shape
          have HLn := Lib.hid (HOn9.out.below hb10).len
          have HL2 := Lib.hid (Go.Proofs.Ythplghcpjmodeaa.H.len_any (HSt9.out.below hb10) HnS'.out (by have := HPl'.out; omega))
          have HOn10 := Lib.hid (HOn9.out.below hb10).bel
          rw [HT'.out] at HL2
          clear ho10 hb10 HM9
          go_wp2_with fail
          refine HLn.out.mono ?_
          rintro r w11 ⟨rfl, rfl⟩
          go_wp2_with fail
          refine HL2.out.mono ?_
          rintro r w12 ⟨rfl, hb12⟩
          have hend : Hid (P (.returned (.bool true)) w12) := Lib.hid (by
            rw [← HP.out]
            exact ⟨rfl, HOn10.out.trans (hb12.mono HOn10.out.size)⟩)
          clear hb12
          go_wp2_with fail
          all_goals exact hend.out
end Go.Proofs.Ythplghcpjmodeaa.C
