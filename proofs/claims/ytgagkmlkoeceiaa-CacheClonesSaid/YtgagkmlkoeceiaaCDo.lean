/- law14's do: a call, of both. -/
import Derived.Test.YtgagkmlkoeceiaaCDoS
namespace Go.Proofs.Ytgagkmlkoeceiaa.C
open Go.RowKit Go.Maps Go.Proofs.Ytgagkmlkoeceiaa.H

/-- the state of a region that compares glyphs, and stores what comes back -/
def DgS (wE : World) (r : Nat) (v0 v1 : Value) : Nat → (Nat → Value) → World → Prop
  | 0, _, u => Below wE.heap.size wE u
  | 1, _, u => Below wE.heap.size wE u
  | _, _, u => ∃ u0, Below wE.heap.size wE u0 ∧ EqD ((u0.setCell ⟨r, 0, none⟩ v0).setCell ⟨r, 1, none⟩ v1) u
theorem DgS.cong {wE : World} {r : Nat} {v0 v1 : Value} {k : Nat} {f f2 : Nat → Value} {u : World} (h : DgS wE r v0 v1 k f u) : DgS wE r v0 v1 k f2 u := by
  match k, h with
  | 0, h => exact h
  | 1, h => exact h
  | _ + 2, h => exact h
theorem DgE {wE : World} {r : Nat} {v0 v1 : Value} {k : Nat} {f : Nat → Value} {u : World} (hk : k ≤ 1) (h : DgS wE r v0 v1 k f u) : Below wE.heap.size wE u := by
  match k, hk, h with
  | 0, _, h => exact h
  | 1, _, h => exact h
def DoOk4 (p q mo : Nat) (a : Option Addr) (n c1 : Nat) (ai : Int) (a8 : Option Addr) (gn c8 : Nat) (pn : Int) (pw : Bool) : Nat → Value → World → Prop
  | 0, u, _ => u = .agg #[.int .i64 (mo : Int), .slice a n c1]
  | 1, u, _ => u = .pointer (some ⟨q, 1, none⟩)
  | 2, u, _ => u = .int .i64 ai
  | 3, u, _ => u = .slice a8 gn c8
  | 4, _, _ => True
  | 5, _, _ => True
  | 6, u, w => ∃ X', u = tupP X' pn pw
  | 7, _, _ => True
  | 8, u, _ => u = .int .i64 pn
  | 9, u, _ => u = .bool pw
  | 10, _, _ => True
  | 11, _, _ => True
  | 12, u, _ => u = .int .i64 pn
  | 13, u, _ => u = .bool pw
  | _, _, _ => True
def DoOk10 (m9 : Int) (a9 : Option Addr) (n9 c9 : Nat) (isS : Bool) (la fa : Option Addr) (gn lc fc : Nat) : Nat → Value → World → Prop
  | 0, u, _ => u = .agg #[.int .i64 m9, .slice a9 n9 c9]
  | 1, u, _ => u = .bool isS
  | 2, u, _ => u = .bool isS
  | 3, u, _ => u = .bool true
  | 4, u, _ => u = .bool true
  | 5, u, _ => u = .slice la gn lc
  | 6, u, _ => u = .slice fa gn fc
  | 7, u, _ => u = .bool true
  | 8, u, _ => u = .bool true
  | 9, _, _ => True
  | 10, u, _ => u = .bool true
  | _, _, _ => True
def DoOk14 (mo : Nat) (a : Option Addr) (n c1 : Nat) (isS : Bool) (la fa : Option Addr) (gn lc fc : Nat) : Nat → Value → World → Prop
  | 0, u, _ => u = .agg #[.int .i64 (mo : Int), .slice a n c1]
  | 1, u, _ => u = .bool isS
  | 2, u, _ => u = .bool isS
  | 3, u, _ => u = .bool true
  | 4, u, _ => u = .bool true
  | 5, u, _ => u = .slice la gn lc
  | 6, u, _ => u = .slice fa gn fc
  | 7, u, _ => u = .bool true
  | 8, u, _ => u = .bool true
  | 9, _, _ => True
  | 10, u, _ => u = .bool true
  | _, _, _ => True
theorem take_same20 {g : List (Int × Int)} {n q : Nat} (hn : n = g.length) (hq : min n 20 = q) : g.take q = g.take 20 := by
  by_cases h : n ≤ 20
  · rw [List.take_of_length_le (by omega), List.take_of_length_le (by omega)]
  · rw [show q = 20 by omega]
theorem pairs_take {rk : IntKind} {a : Option Addr} {n c : Nat} {l : List (Int × Int)} {w : World} (h : PairsIn rk a n c l w) {k : Nat} (hk : k ≤ n) : PairsIn rk a k c (l.take k) w := h.take k hk
theorem Ch.nodup {c : Nat} {M G : List Nat} {x : Ca} {w : World} (h : Ch c M G x w) : (nums x).Nodup ∧ x.L.length ≤ x.most ∧ 1 ≤ x.most ∧ x.most ≤ 65536 := by
  obtain ⟨m, e, ns, h1, h2, h3⟩ := h
  refine ⟨?_, h3⟩
  unfold nums
  rw [← h2, List.map_map]
  exact h1.num
theorem find_mem {L : List (Int × List (Int × Int))} {i : Int} {g : List (Int × Int)} (h : findC L i = some g) : ∃ y ∈ L, y.2 = g := by
  unfold findC at h
  obtain ⟨y, h1, h2⟩ := Option.map_eq_some_iff.1 h
  exact ⟨y, List.mem_of_find?_eq_some h1, h2⟩
theorem find_ok {L : List (Int × List (Int × Int))} {i : Int} {g : List (Int × Int)} (hL : ∀ y ∈ L, RngG y.2 ∧ y.2.length ≤ 1000) (h : (findC L i).getD [] = g) : RngG g ∧ g.length ≤ 1000 := by
  cases hf : findC L i with
  | none => rw [hf] at h; subst h; exact ⟨(fun _ h => by cases h), by simp⟩
  | some g' =>
    rw [hf] at h
    obtain rfl : g' = g := h
    obtain ⟨y, h1, rfl⟩ := find_mem hf
    exact hL y h1
set_option maxRecDepth 100000 in
set_option maxHeartbeats 16000000 in
theorem do_any {c : Nat} (Z : List Nat) {M G : List Nat} {x : Ca} (X : Value) (kd ai : Int) (sa : Option Addr) (sn sc : Nat) (g : List (Int × Int)) (w : World) (h : Ch c M G x w) (hX : RefC (Z ++ M) X x w) (hZ : ∀ p ∈ Z, p < w.heap.size) (hg : PairsIn .i32 sa sn sc g w) (hnil : sa = none → sc = 0) (hr : RngG g) (hl : x.L.length ≤ 100000) (hRL : ∀ y ∈ x.L, RngG y.2 ∧ y.2.length ≤ 1000) (hai : -9223372036854775808 ≤ ai ∧ ai ≤ 9223372036854775807) :
    Calls Try.prog 8 #[.pointer (some ⟨c, 0, none⟩), X, .agg #[.int .i64 kd, .int .i64 ai, .slice sa sn sc]] w (DoPost c Z M G (stepC x kd ai (g.take 20)) w) := by
  obtain ⟨P, hP⟩ : ∃ P, DoPost c Z M G (stepC x kd ai (g.take 20)) w = P := ⟨_, rfl⟩
  rw [hP]
  have HP := Lib.hid hP
  have hcopy := hX
  obtain ⟨a, n, c1, es0, rfl, -⟩ := hcopy
  obtain ⟨mo, hm⟩ : ∃ mo, x.most = mo := ⟨_, rfl⟩
  rw [hm] at hX ⊢
  have hmo : 1 ≤ mo := by rw [← hm]; exact h.nodup.2.2.1
  obtain ⟨p, hp⟩ : ∃ p, p = w.heap.size := ⟨_, rfl⟩
  obtain ⟨w1, hw1⟩ : ∃ w1, w1 = w.alloc (.cells #[.int .i64 (mo : Int), .slice a n c1] 28) := ⟨_, rfl⟩
  obtain ⟨w1b, hw1b⟩ : ∃ w1b, w1b = w1.alloc (.cells #[.int .i64 kd, .int .i64 ai, .slice sa sn sc] 34) := ⟨_, rfl⟩
  obtain ⟨w2, hw2⟩ : ∃ w2, w2 = w1b.alloc (.cells #[.int .i64 0, .slice none 0 0] 28) := ⟨_, rfl⟩
  have hs1 : w1.heap.size = p + 1 := by rw [hw1, World.size_alloc, hp]
  have hs1b : w1b.heap.size = p + 2 := by rw [hw1b, World.size_alloc, hs1]
  have hs2 : w2.heap.size = p + 3 := by rw [hw2, World.size_alloc, hs1b]
  have b1 : Below w.heap.size w w1 := by rw [hw1]; exact alloc_below _ _
  have b1b : Below w1.heap.size w1 w1b := by rw [hw1b]; exact alloc_below _ _
  have b2 : Below w1b.heap.size w1b w2 := by rw [hw2]; exact alloc_below _ _
  have hb2 : Below w.heap.size w w2 := b1.trans ((b1b.trans (b2.mono b1b.size)).mono b1.size)
  obtain ⟨q, hq⟩ : ∃ q, q = p + 1 := ⟨_, rfl⟩
  obtain ⟨r, hr0⟩ : ∃ r, r = p + 2 := ⟨_, rfl⟩
  have hxp : w2.heap[p]? = some (.cells #[.int .i64 (mo : Int), .slice a n c1] 28 (0, 0)) := ((b1b.trans (b2.mono b1b.size)).block p (by omega)).trans (by rw [hw1, hp]; exact heap_alloc_new w _)
  have hxq : w2.heap[q]? = some (.cells #[.int .i64 kd, .int .i64 ai, .slice sa sn sc] 34 (0, 0)) := (b2.block q (by omega)).trans (by rw [hw1b, hq, ← hs1]; exact heap_alloc_new w1 _)
  have hxr : w2.heap[r]? = some (.cells #[.int .i64 0, .slice none 0 0] 28 (0, 0)) := by rw [hw2, hr0, ← hs1b]; exact heap_alloc_new w1b _
  have HR2 : Hid (RefC (r :: (Z ++ M)) (.agg #[.int .i64 (mo : Int), .slice a n c1]) x w2) := Lib.hid (hX.apart hb2 (by omega))
  have HCh := Lib.hid h
  have HB2 := Lib.hid hb2
  have HXp2 := Lib.hid hxp
  have HXq2 := Lib.hid hxq
  have HXr2 := Lib.hid hxr
  have HSr : Hid (w.heap.size ≤ r ∧ r < w2.heap.size ∧ p < w2.heap.size ∧ q < w2.heap.size ∧ (∀ p ∈ M, p < w.heap.size) ∧ (∀ p ∈ G, p < w.heap.size) ∧ x.most = mo) := Lib.hid ⟨by omega, by omega, by omega, by omega, h.lt.1, fun p hp => (h.lt.2 p hp).2, hm⟩
  have HMR2 : Hid (∀ q ∈ r :: (Z ++ M), q < w2.heap.size) := Lib.hid (fun q hq => by
    rcases List.mem_cons.1 hq with rfl | hq
    · omega
    · rcases List.mem_append.1 hq with hq | hq
      · have := hZ q hq; omega
      · have := h.lt.1 q hq; omega)
  have HW : Hid (((w.alloc (.cells #[.int .i64 (mo : Int), .slice a n c1] 28)).alloc (.cells #[.int .i64 kd, .int .i64 ai, .slice sa sn sc] 34)).alloc (.cells #[.int .i64 0, .slice none 0 0] 28) = w2) := Lib.hid (by rw [hw2, hw1b, hw1])
  have HSz : Hid (w.heap.size = p ∧ p + 1 = q ∧ q + 1 = r) := Lib.hid ⟨by omega, by omega, by omega⟩
  have HPw : Hid (w.heap.size ≤ p) := Lib.hid (by omega)
  have HLm : Hid (x.L.length ≤ 100000 ∧ 1 ≤ x.most) := Lib.hid ⟨hl, by rw [hm]; exact hmo⟩
  have HG : Hid (PairsIn .i32 sa sn sc g w ∧ (sa = none → sc = 0) ∧ RngG g) := Lib.hid ⟨hg, hnil, hr⟩
  have HRL := Lib.hid hRL
  have HAi := Lib.hid hai
  have c0 : w2.cell? ⟨q, 0, none⟩ = some (.int .i64 kd) := by rw [cell_block hxq]; rfl
  have c1' : w2.cell? ⟨q, 1, none⟩ = some (.int .i64 ai) := by rw [cell_block hxq]; rfl
  have c2 : w2.cell? ⟨q, 2, none⟩ = some (.slice sa sn sc) := by rw [cell_block hxq]; rfl
  have e0 : w2.cell? ⟨p, 0, none⟩ = some (.int .i64 (mo : Int)) := by rw [cell_block hxp]; rfl
  have e1 : w2.cell? ⟨p, 1, none⟩ = some (.slice a n c1) := by rw [cell_block hxp]; rfl
  have HSl := Lib.hid hg.len
  have hsc := hg.fit
  have hst := hg.top
  have hzC := zeroRC
  clear hP h hX hZ hm hp hw1 hw1b hw2 hs1 hs1b hs2 b1 b1b b2 hb2 hxp hxq hxr hq hr0 hg hnil hr hl hRL hai
  go_enter Try.func8, Try.ntmps8
  go_upto_region 1 with fail
  rw [HW.out, HSz.out.1, HSz.out.2.1, HSz.out.2.2]
  clear HW HSz
  by_cases k0 : kd = 0
  · subst k0
    obtain ⟨gn, hgn⟩ : ∃ gn, min sn 20 = gn := ⟨_, rfl⟩
    have hgI : min (sn : Int) 20 = (gn : Int) := by omega
    have hpq := pairs_take HG.out.1 (k := gn) (by omega)
    rw [take_same20 HSl.out hgn] at hpq
    obtain ⟨gq, hgq⟩ : ∃ gq, g.take 20 = gq := ⟨_, rfl⟩
    rw [hgq] at hpq
    have hgs : gn ≤ sn := by omega
    have hgcI : (gn : Int) ≤ sc := by omega
    have hgsI : (gn : Int) ≤ sn := by omega
    have hgl : gq.length = gn := hpq.len.symm
    obtain ⟨wl, hwl⟩ : ∃ wl, w2.alloc (.cells #[] 43) = wl := ⟨_, rfl⟩
    have hbl : Below w2.heap.size w2 wl := by rw [← hwl]; exact alloc_below _ _
    have ho1 := OwnP.lit2 w2
    rw [hwl] at ho1
    have HO1 := Lib.hid ho1
    have HI1 : Hid (PairsIn .i32 sa gn sc gq wl) := Lib.hid (hpq.belowAll (HB2.out.trans (hbl.mono HB2.out.size)))
    have HLn : Hid ((gq.length : Int) ≤ 1000000) := Lib.hid (by omega)
    have HS1 := Lib.hid hbl.size
    have HBl := Lib.hid hbl
    have HWl := Lib.hid hwl
    have c2l : (w2.alloc (.cells #[] 43)).cell? ⟨q, 2, none⟩ = some (.slice sa sn sc) := (((alloc_below w2 _).cell (p := ⟨q, 2, none⟩) HSr.out.2.2.2.1)).trans c2
    have HGq : Hid (gq.length = gn ∧ gn ≤ 20 ∧ RngG gq ∧ g.take 20 = gq) := Lib.hid ⟨hgl, by omega, by rw [← hgq]; exact fun y hy => HG.out.2.2 y (List.mem_of_mem_take hy), hgq⟩
    clear hgn hpq hgq hgl hbl ho1 hwl
    go_wp2_with (at_builtin; rw [HWl.out]; refine wpList_append_q gluT rfl _ _ rfl rfl w2.heap.size _ [] sa gn sc gq rfl rfl ?_ ?_ ?_ ?_ ?_ ?_; exact HO1.out; exact HI1.out; simp; exact HLn.out; exact HS1.out)
    intro v8 wA hg8
    have ho8 := hg8.own
    try rw [List.nil_append] at ho8
    obtain ⟨a8, c8, rfl, hp8, hn8, hb8⟩ := ho8.shape
    rw [HGq.out.1] at hp8 ho8 ⊢
    have hbA : Below w2.heap.size w2 wA := HBl.out.grown hg8.grown HS1.out (fun q hq => (HO1.out.own q hq).1)
    have HG8 : Hid (PairsIn .i32 a8 gn c8 gq wA ∧ gq.length = gn ∧ RngG gq ∧ gn ≤ 20) := Lib.hid ⟨hp8, HGq.out.1, HGq.out.2.2.1, HGq.out.2.1⟩
    have HN8 : Hid ((a8 = none → c8 = 0) ∧ ∀ b off, a8 = some ⟨b, off, none⟩ → w2.heap.size ≤ b) := Lib.hid ⟨hn8, fun b off e => (ho8.own b (by rw [← HGq.out.1] at *; exact hb8 b off e)).1⟩
    have HBA := Lib.hid hbA
    have HRX : Hid (RefC (r :: (Z ++ M)) (.agg #[.int .i64 (mo : Int), .slice a n c1]) x wA) := Lib.hid (HR2.out.below hbA)
    have HMR : Hid (∀ q ∈ r :: (Z ++ M), q < wA.heap.size) := Lib.hid (fun q hq => Nat.lt_of_lt_of_le (HMR2.out q hq) hbA.size)
    have hxp := (hbA.block p HSr.out.2.2.1).trans HXp2.out
    have hxq := (hbA.block q HSr.out.2.2.2.1).trans HXq2.out
    have HXp : Hid (p < wA.heap.size ∧ wA.cell? ⟨p, 0, none⟩ = some (.int .i64 (mo : Int)) ∧ wA.cell? ⟨p, 1, none⟩ = some (.slice a n c1)) := Lib.hid ⟨(Array.getElem?_eq_some_iff.1 hxp).1, by rw [cell_block hxp]; rfl, by rw [cell_block hxp]; rfl⟩
    have HXq : Hid (q < wA.heap.size ∧ wA.cell? ⟨q, 1, none⟩ = some (.int .i64 ai)) := Lib.hid ⟨(Array.getElem?_eq_some_iff.1 hxq).1, by rw [cell_block hxq]; rfl⟩
    obtain ⟨pn, hpn⟩ : ∃ pn, (putC x ai gq).2.1 = pn := ⟨_, rfl⟩
    obtain ⟨pw, hpw⟩ : ∃ pw, (putC x ai gq).2.2 = pw := ⟨_, rfl⟩
    obtain ⟨y, hy⟩ : ∃ y, (putC x ai gq).1 = y := ⟨_, rfl⟩
    obtain ⟨MR, hMR⟩ : ∃ MR, r :: (Z ++ M) = MR := ⟨_, rfl⟩
    rw [hMR] at HRX HMR
    have HPn : Hid ((putC x ai gq).2.1 = pn ∧ (putC x ai gq).2.2 = pw ∧ (putC x ai gq).1 = y) := Lib.hid ⟨hpn, hpw, hy⟩
    have HMRe := Lib.hid hMR
    clear c2l hp8 hn8 hb8 ho8 hg8 hbA hxp hxq hpn hpw hy hMR HO1 HI1 HLn HS1 HBl HWl
    go_upto_region 4 with fail
    clear c0 c1' c2 e0 e1
    refine Go.Proofs.Ytgagkmlkoeceiaa.R.wp_region_seen [4, 5, 6, 7, 11] [1, 1, 1, 0, 1, 2, 3, 4, 5, 5, 4, 5, 5, 5] (by kernel_rfl) (PdS wA MR y gq pn pw) (fun _ _ => True) (DoOk4 p q mo a n c1 ai a8 gn c8 pn pw) (by rfl) (by kernel_rfl) (by kernel_rfl) (by kernel_rfl) (by kernel_rfl) ?hOk ?hop ?hdone ?h0
    case hOk => intro i u w1 w2 h hr; unfold DoOk4 at h ⊢; split <;> first | exact True.intro | exact h
    case h0 => exact PdS.start (Below.refl _ _).drew
    case hop =>
      refine ⟨?_, ?_, ?_, ?_, ?_, ?_, ?_, ?_, ?_, ?_, ?_, ?_, ?_, ?_, trivial⟩
      · intro k L z v hk hL hst hag hpre hdep
        refine .inl ⟨rfl, fun K hK => ?_⟩
        have d4 : z.tmps.getD 4 undef = .pointer (some ⟨p, 0, none⟩) := hag.2.2 4 (by kernel_rfl)
        have e4 := d4
        rw [Array.getD_eq_getD_getElem?] at e4
        have hb9 : Below wA.heap.size wA v := hst.1
        have l0 := (hb9.cell (p := ⟨p, 0, none⟩) HXp.out.1).trans HXp.out.2.1
        have l1 := (hb9.cell (p := ⟨p, 1, none⟩) HXp.out.1).trans HXp.out.2.2
        try simp only at l0 l1
        clear hb9
        have HSt := Lib.hid hst
        clear hpre hdep hag hst
        go_simp
        exact hK _ _ trivial rfl (PdS.keep rfl (Go.Proofs.Ytgagkmlkoeceiaa.R.slot_put (by decide)) (Go.Proofs.Ytgagkmlkoeceiaa.R.slot_put (by decide)) (Go.Proofs.Ytgagkmlkoeceiaa.R.slot_put (by decide)) (Go.Proofs.Ytgagkmlkoeceiaa.R.slot_put (by decide)) (Go.Proofs.Ytgagkmlkoeceiaa.R.slot_put (by decide)) HSt.out)
      · intro k L z v hk hL hst hag hpre hdep
        refine .inl ⟨rfl, fun K hK => ?_⟩
        have d5 : z.tmps.getD 5 undef = .pointer (some ⟨q, 0, none⟩) := hag.2.2 5 (by kernel_rfl)
        have e5 := d5
        rw [Array.getD_eq_getD_getElem?] at e5
        have HSt := Lib.hid hst
        clear hpre hdep hag hst
        go_simp
        exact hK _ _ trivial rfl (PdS.keep rfl (Go.Proofs.Ytgagkmlkoeceiaa.R.slot_put (by decide)) (Go.Proofs.Ytgagkmlkoeceiaa.R.slot_put (by decide)) (Go.Proofs.Ytgagkmlkoeceiaa.R.slot_put (by decide)) (Go.Proofs.Ytgagkmlkoeceiaa.R.slot_put (by decide)) (Go.Proofs.Ytgagkmlkoeceiaa.R.slot_put (by decide)) HSt.out)
      · intro k L z v hk hL hst hag hpre hdep
        refine .inl ⟨rfl, fun K hK => ?_⟩
        have d38 : z.tmps.getD 38 undef = .pointer (some ⟨q, 1, none⟩) := hdep { on := 1, ground := .data } (by simp) rfl _ _ rfl rfl
        have e38 := d38
        rw [Array.getD_eq_getD_getElem?] at e38
        have hb9 : Below wA.heap.size wA v := hst.1
        have l1 := (hb9.cell (p := ⟨q, 1, none⟩) HXq.out.1).trans HXq.out.2
        try simp only at l1
        clear hb9
        have HSt := Lib.hid hst
        clear hpre hdep hag hst
        go_simp
        exact hK _ _ trivial rfl (PdS.keep rfl (Go.Proofs.Ytgagkmlkoeceiaa.R.slot_put (by decide)) (Go.Proofs.Ytgagkmlkoeceiaa.R.slot_put (by decide)) (Go.Proofs.Ytgagkmlkoeceiaa.R.slot_put (by decide)) (Go.Proofs.Ytgagkmlkoeceiaa.R.slot_put (by decide)) (Go.Proofs.Ytgagkmlkoeceiaa.R.slot_put (by decide)) HSt.out)
      · intro k L z v hk hL hst hag hpre hdep
        refine .inl ⟨rfl, fun K hK => ?_⟩
        have d8 : z.tmps.getD 8 undef = .slice a8 gn c8 := hag.2.2 8 (by kernel_rfl)
        have e8 := d8
        rw [Array.getD_eq_getD_getElem?] at e8
        have HSt := Lib.hid hst
        clear hpre hdep hag hst
        go_simp
        exact hK _ _ trivial rfl (PdS.keep rfl (Go.Proofs.Ytgagkmlkoeceiaa.R.slot_put (by decide)) (Go.Proofs.Ytgagkmlkoeceiaa.R.slot_put (by decide)) (Go.Proofs.Ytgagkmlkoeceiaa.R.slot_put (by decide)) (Go.Proofs.Ytgagkmlkoeceiaa.R.slot_put (by decide)) (Go.Proofs.Ytgagkmlkoeceiaa.R.slot_put (by decide)) HSt.out)
      · intro L z v hL hst hag hpre hdep
        refine ⟨rfl, fun K hK => ?_⟩
        have d40 : z.tmps.getD 40 undef = .slice a8 gn c8 := hdep { on := 3, ground := .data } (by simp) rfl _ _ rfl rfl
        have e40 := d40
        rw [Array.getD_eq_getD_getElem?] at e40
        have hsz : 41 < z.tmps.size := by rw [hag.2.1]; show 41 < 119; decide
        have hb9 : Below wA.heap.size wA v := hst.1
        have hc := pd_told hst HG8.out
        have HC := Lib.hid hc
        clear hpre hdep hag hst hb9 hc
        go_simp
        refine HC.out.mono ?_
        rintro e w' ⟨v9, rfl, h9⟩
        exact hK _ _ trivial True.intro (h9 _ (Go.Proofs.Ytgagkmlkoeceiaa.R.slot_same hsz) (Go.Proofs.Ytgagkmlkoeceiaa.R.slot_put (by decide)))
      · intro L z v hL hst hag hpre hdep
        refine ⟨rfl, fun K hK => ?_⟩
        have d37 : z.tmps.getD 37 undef = .agg #[.int .i64 (mo : Int), .slice a n c1] := hdep { on := 0, ground := .data } (by simp) rfl _ _ rfl rfl
        have e37 := d37
        rw [Array.getD_eq_getD_getElem?] at e37
        have d39 : z.tmps.getD 39 undef = .int .i64 ai := hdep { on := 2, ground := .data } (by simp) rfl _ _ rfl rfl
        have e39 := d39
        rw [Array.getD_eq_getD_getElem?] at e39
        have hsz : 42 < z.tmps.size := by rw [hag.2.1]; show 42 < 119; decide
        have hst2 : PdS wA MR (putC x ai gq).1 gq (putC x ai gq).2.1 (putC x ai gq).2.2 1 L (Go.Proofs.Ytgagkmlkoeceiaa.R.slot z) v := by rw [HPn.out.1, HPn.out.2.1, HPn.out.2.2]; exact hst
        obtain ⟨a9, c9, f41, hc⟩ := pd_call hst2 HRX.out HMR.out HLm.out.1 HLm.out.2
        rw [HPn.out.1, HPn.out.2.1, HPn.out.2.2] at hc
        clear hst2
        have d41 : z.tmps.getD 41 undef = .slice a9 gq.length c9 := f41
        rw [HG8.out.2.1] at d41 hc
        have e41 := d41
        rw [Array.getD_eq_getD_getElem?] at e41
        have HC := Lib.hid hc
        clear hpre hdep hag hst hc f41
        go_simp
        refine HC.out.mono ?_
        rintro e w' ⟨X', rfl, h9⟩
        exact hK _ _ trivial True.intro (h9 _ (Go.Proofs.Ytgagkmlkoeceiaa.R.slot_same hsz) (Go.Proofs.Ytgagkmlkoeceiaa.R.slot_put (by decide)))
      · intro L z v hL hst hag hpre hdep
        refine ⟨rfl, fun K hK => ?_⟩
        have hsz : 36 < z.tmps.size := by rw [hag.2.1]; show 36 < 119; decide
        obtain ⟨X', f42, hx⟩ := hst.2.2.2.1 rfl
        have d42 : z.tmps.getD 42 undef = tupP X' pn pw := f42
        have e42 := d42
        rw [Array.getD_eq_getD_getElem?] at e42
        have HSt := Lib.hid hst
        have HX := Lib.hid hx
        clear hpre hdep hag hst hx f42
        go_simp
        exact hK _ _ trivial ⟨X', rfl⟩ (pd_next3 HSt.out HX.out (Go.Proofs.Ytgagkmlkoeceiaa.R.slot_same hsz) (Go.Proofs.Ytgagkmlkoeceiaa.R.slot_put (by decide)))
      · intro L z v hL hst hag hpre hdep
        refine ⟨rfl, fun K hK => ?_⟩
        have d36' : DoOk4 p q mo a n c1 ai a8 gn c8 pn pw 6 (z.tmps.getD 36 undef) v := hdep { on := 6, ground := .data } (by simp) rfl _ _ rfl rfl
        simp only [DoOk4] at d36'
        obtain ⟨X6, d36⟩ := d36'
        have e36 := d36
        rw [Array.getD_eq_getD_getElem?] at e36
        have hsz : 43 < z.tmps.size := by rw [hag.2.1]; show 43 < 119; decide
        obtain ⟨X', f36, hx⟩ := hst.2.2.2.2.1 rfl
        obtain rfl : X6 = X' := by simpa [tupP] using d36.symm.trans f36
        unfold tupP at e36
        have HSt := Lib.hid hst
        have HX := Lib.hid hx
        clear hpre hdep hag hst hx f36 d36
        go_simp
        exact hK _ _ trivial True.intro (pd_next4 HSt.out HX.out (Go.Proofs.Ytgagkmlkoeceiaa.R.slot_same hsz) (Go.Proofs.Ytgagkmlkoeceiaa.R.slot_put (by decide)))
      · intro k L z v hk hL hst hag hpre hdep
        refine .inl ⟨rfl, fun K hK => ?_⟩
        have d36' : DoOk4 p q mo a n c1 ai a8 gn c8 pn pw 6 (z.tmps.getD 36 undef) v := hdep { on := 6, ground := .data } (by simp) rfl _ _ rfl rfl
        simp only [DoOk4] at d36'
        obtain ⟨X6, d36⟩ := d36'
        have e36 := d36
        rw [Array.getD_eq_getD_getElem?] at e36
        unfold tupP at e36
        have HSt := Lib.hid hst
        clear hpre hdep hag hst d36
        go_simp
        exact hK _ _ trivial rfl (PdS.keep rfl (Go.Proofs.Ytgagkmlkoeceiaa.R.slot_put (by decide)) (Go.Proofs.Ytgagkmlkoeceiaa.R.slot_put (by decide)) (Go.Proofs.Ytgagkmlkoeceiaa.R.slot_put (by decide)) (Go.Proofs.Ytgagkmlkoeceiaa.R.slot_put (by decide)) (Go.Proofs.Ytgagkmlkoeceiaa.R.slot_put (by decide)) HSt.out)
      · intro k L z v hk hL hst hag hpre hdep
        refine .inl ⟨rfl, fun K hK => ?_⟩
        have d36' : DoOk4 p q mo a n c1 ai a8 gn c8 pn pw 6 (z.tmps.getD 36 undef) v := hdep { on := 6, ground := .data } (by simp) rfl _ _ rfl rfl
        simp only [DoOk4] at d36'
        obtain ⟨X6, d36⟩ := d36'
        have e36 := d36
        rw [Array.getD_eq_getD_getElem?] at e36
        unfold tupP at e36
        have HSt := Lib.hid hst
        clear hpre hdep hag hst d36
        go_simp
        exact hK _ _ trivial rfl (PdS.keep rfl (Go.Proofs.Ytgagkmlkoeceiaa.R.slot_put (by decide)) (Go.Proofs.Ytgagkmlkoeceiaa.R.slot_put (by decide)) (Go.Proofs.Ytgagkmlkoeceiaa.R.slot_put (by decide)) (Go.Proofs.Ytgagkmlkoeceiaa.R.slot_put (by decide)) (Go.Proofs.Ytgagkmlkoeceiaa.R.slot_put (by decide)) HSt.out)
      · intro k L z v hk hL hst hag hpre hdep
        refine .inl ⟨rfl, fun K hK => ?_⟩
        have hsz : 9 < z.tmps.size := by rw [hag.2.1]; show 9 < 119; decide
        have HSt := Lib.hid hst
        have hzC := zeroRC
        have HL := Lib.hid hL
        clear hpre hdep hag hst
        go_simp
        exact hK _ _ trivial True.intro (pd_alloc (Nat.le_trans hk (by decide)) HSt.out HL.out (Go.Proofs.Ytgagkmlkoeceiaa.R.slot_same hsz) (Go.Proofs.Ytgagkmlkoeceiaa.R.slot_put (by decide)) (Go.Proofs.Ytgagkmlkoeceiaa.R.slot_put (by decide)) (Go.Proofs.Ytgagkmlkoeceiaa.R.slot_put (by decide)) (Go.Proofs.Ytgagkmlkoeceiaa.R.slot_put (by decide)))
      · intro L z v hL hst hag hpre hdep
        refine ⟨rfl, fun K hK => ?_⟩
        have h10 : L 10 = true := hpre { on := 10, ground := .data } (by simp) rfl
        obtain ⟨b9, m9, a9, n9, c9, f9, f43, hz, hn⟩ := pd_store hst h10
        have d9 : z.tmps.getD 9 undef = .pointer (some ⟨b9, 0, none⟩) := f9
        have e9 := d9
        rw [Array.getD_eq_getD_getElem?] at e9
        have d43 : z.tmps.getD 43 undef = .agg #[.int .i64 m9, .slice a9 n9 c9] := f43
        have e43 := d43
        rw [Array.getD_eq_getD_getElem?] at e43
        have hz1 : (v.setCell ⟨b9, 0, none⟩ (.int .i64 m9)).heap[b9]? = some (.cells #[.int .i64 m9, .slice none 0 0] 28 (0, 0)) := by simp [World.setCell, Array.getElem?_modify, hz]
        have s0 : v.cell? ⟨b9, 0, none⟩ = some (.int .i64 0) := by rw [cell_block hz]; rfl
        have s1 : (v.setCell ⟨b9, 0, none⟩ (.int .i64 m9)).cell? ⟨b9, 1, none⟩ = some (.slice none 0 0) := by rw [cell_block hz1]; rfl
        have g0 := frozen_block hz 0
        have g1 := frozen_block hz1 1
        have HN := Lib.hid hn
        clear hpre hdep hag hst hn hz hz1 f9 f43
        go_simp
        exact hK undef _ trivial True.intro (HN.out _ rfl)
      · intro k L z v hk hL hst hag hpre hdep
        refine .inl ⟨rfl, fun K hK => ?_⟩
        have d44 : z.tmps.getD 44 undef = .int .i64 pn := hdep { on := 8, ground := .data } (by simp) rfl _ _ rfl rfl
        have e44 := d44
        rw [Array.getD_eq_getD_getElem?] at e44
        have HSt := Lib.hid hst
        clear hpre hdep hag hst
        go_simp
        exact hK _ _ trivial rfl (PdS.keep rfl (Go.Proofs.Ytgagkmlkoeceiaa.R.slot_put (by decide)) (Go.Proofs.Ytgagkmlkoeceiaa.R.slot_put (by decide)) (Go.Proofs.Ytgagkmlkoeceiaa.R.slot_put (by decide)) (Go.Proofs.Ytgagkmlkoeceiaa.R.slot_put (by decide)) (Go.Proofs.Ytgagkmlkoeceiaa.R.slot_put (by decide)) HSt.out)
      · intro k L z v hk hL hst hag hpre hdep
        refine .inl ⟨rfl, fun K hK => ?_⟩
        have d45 : z.tmps.getD 45 undef = .bool pw := hdep { on := 9, ground := .data } (by simp) rfl _ _ rfl rfl
        have e45 := d45
        rw [Array.getD_eq_getD_getElem?] at e45
        have HSt := Lib.hid hst
        clear hpre hdep hag hst
        go_simp
        exact hK _ _ trivial rfl (PdS.keep rfl (Go.Proofs.Ytgagkmlkoeceiaa.R.slot_put (by decide)) (Go.Proofs.Ytgagkmlkoeceiaa.R.slot_put (by decide)) (Go.Proofs.Ytgagkmlkoeceiaa.R.slot_put (by decide)) (Go.Proofs.Ytgagkmlkoeceiaa.R.slot_put (by decide)) (Go.Proofs.Ytgagkmlkoeceiaa.R.slot_put (by decide)) HSt.out)
    case hdone =>
      intro z wB L hall hst hag hok
      obtain ⟨b9, m9, a9, n9, c9, f9, hbn, hx9, hrc⟩ := hst.2.2.2.2.2.2 rfl
      have d9 : z.tmps.getD 9 undef = .pointer (some ⟨b9, 0, none⟩) := f9
      have d10 : z.tmps.getD 10 undef = .int .i64 pn := hok 12 _ 10 rfl rfl
      have d11 : z.tmps.getD 11 undef = .bool pw := hok 13 _ 11 rfl rfl
      have HBB := Lib.hid hst.1
      have HX9 := Lib.hid hx9
      have HRc := Lib.hid hrc
      have HBn := Lib.hid hbn
      clear f9 hbn hx9 hrc hst hall
      obtain ⟨uu, hu, hzz⟩ := Go.Proofs.Ytgagkmlkoeceiaa.R.agree_frame [37, 38, 39, 40, 41, 42, 36, 43, 44, 45, 9, 10, 11] rfl hag
      have e9 := (hu 9).trans d9
      have e10 := (hu 10).trans d10
      have e11 := (hu 11).trans d11
      subst hzz
      simp only [List.foldl_cons, List.foldl_nil]
      rw [e9, e10, e11]
      clear e9 d9 e10 d10 e11 d11 hu hag hok
      try dsimp only [Exit.then]
      simp only [List.setIfInBounds_toArray, List.set_cons_succ, List.set_cons_zero]
      generalize uu 37 = u37', uu 38 = u38', uu 39 = u39', uu 40 = u40', uu 41 = u41', uu 42 = u42', uu 36 = u36', uu 43 = u43', uu 44 = u44', uu 45 = u45'
      clear uu
      have hwB : Below w.heap.size w wB := HB2.out.trans ((HBA.out.trans (HBB.out.mono HBA.out.size)).mono HB2.out.size)
      have hqB := (HBB.out.cell (p := ⟨q, 1, none⟩) HXq.out.1).trans HXq.out.2
      have hpu := put_any ai HAi.out a8 gn c8 gq wB (HCh.out.below hwB) (HG8.out.1.belowAll HBB.out) HN8.out.1 (by have := HG8.out.2; omega) (fun _ p o e hm => by have := HN8.out.2 p o e; have := HSr.out.2.2.2.2.1 p hm; have := HB2.out.size; omega)
      unfold PutPost at hpu
      rw [HPn.out.1, HPn.out.2.1, HPn.out.2.2] at hpu
      have HPu := Lib.hid hpu
      have HWB := Lib.hid hwB
      clear hpu hwB
      go_wp2_with fail
      refine HPu.out.mono ?_
      rintro e w5 ⟨M', G', rfl, k1, k2, k3, k4⟩
      have hbM : b9 ∉ M := fun hm => by have := HSr.out.2.2.2.2.1 b9 hm; have := HBn.out; have := HB2.out.size; have := HBA.out.size; omega
      have hrM : r ∉ M := fun hm => by have := HSr.out.2.2.2.2.1 r hm; have := HSr.out.1; omega
      have hrB : r < wB.heap.size := Nat.lt_of_lt_of_le HSr.out.2.1 (Nat.le_trans HBA.out.size HBB.out.size)
      have hx5 := (k2.block b9 (Array.getElem?_eq_some_iff.1 HX9.out).1 hbM).trans HX9.out
      have hxr5 := (k2.block r hrB hrM).trans (((HBA.out.trans (HBB.out.mono HBA.out.size)).block r HSr.out.2.1).trans HXr2.out)
      have hrM' : r ∉ M' := fun hm => (k3 r hm).elim hrM (fun h => by omega)
      have hrG' : r ∉ G' := fun hm => (k4 r hm).elim (fun h9 => by have := HSr.out.2.2.2.2.2.1 r h9; have := HSr.out.1; omega) (fun h => by omega)
      have hrc5 : RefC (r :: (Z ++ M')) (.agg #[.int .i64 m9, .slice a9 n9 c9]) y w5 := RefC.turnedR (by rw [HMRe.out]; exact HRc.out) k2 k3
      have u0 : w5.cell? ⟨b9, 0, none⟩ = some (.int .i64 m9) := by rw [cell_block hx5]; rfl
      have u1 : w5.cell? ⟨b9, 1, none⟩ = some (.slice a9 n9 c9) := by rw [cell_block hx5]; rfl
      have hz1 : (w5.setCell ⟨r, 0, none⟩ (.int .i64 m9)).heap[r]? = some (.cells #[.int .i64 m9, .slice none 0 0] 28 (0, 0)) := by simp [World.setCell, Array.getElem?_modify, hxr5]
      have s0 : w5.cell? ⟨r, 0, none⟩ = some (.int .i64 0) := by rw [cell_block hxr5]; rfl
      have s1 : (w5.setCell ⟨r, 0, none⟩ (.int .i64 m9)).cell? ⟨r, 1, none⟩ = some (.slice none 0 0) := by rw [cell_block hz1]; rfl
      have g0 := frozen_block hxr5 0
      have g1 := frozen_block hz1 1
      have q1 : (pn == pn) = true := by simp
      have q2 : (pw == pw) = true := by simp
      obtain ⟨w6, hw6⟩ : ∃ w6, (w5.setCell ⟨r, 0, none⟩ (.int .i64 m9)).setCell ⟨r, 1, none⟩ (.slice a9 n9 c9) = w6 := ⟨_, rfl⟩
      have hx6 : w6.heap[r]? = some (.cells #[.int .i64 m9, .slice a9 n9 c9] 28 (0, 0)) := by rw [← hw6]; exact rc_stored _ _ hxr5
      have t0 : w6.cell? ⟨r, 0, none⟩ = some (.int .i64 m9) := by rw [cell_block hx6]; rfl
      have t1 : w6.cell? ⟨r, 1, none⟩ = some (.slice a9 n9 c9) := by rw [cell_block hx6]; rfl
      have hend : Hid (P (.returned (.tuple #[.agg #[.int .i64 m9, .slice a9 n9 c9], .bool true])) w6) := Lib.hid (by
        rw [← HP.out]
        have e9 : stepC x 0 ai (g.take 20) = y := by unfold stepC; rw [if_pos rfl, HGq.out.2.2.2, HPn.out.2.2]
        unfold DoPost
        rw [e9]
        have hkk : KeepB M w w5 := (KeepB.of_below HWB.out).trans k2
        refine ⟨M', G', _, rfl, by rw [← hw6]; exact k1.two _ _ hrM' hrG', by rw [← hw6]; exact hrc5.set2 _ _, ?_, fun p hp => (k3 p hp).imp id (fun h => Nat.le_trans HWB.out.size h), fun p hp => (k4 p hp).imp id (fun h => Nat.le_trans HWB.out.size h)⟩
        rw [← hw6]
        exact ((hkk.mono (fun i hi => List.mem_cons_of_mem r hi)).trans (((KeepB.setCell (w := w5) (q := r) (o := 0) (.int .i64 m9)).trans (KeepB.setCell _)).mono (fun i hi => by rw [(by simpa using hi : i = r)]; simp))).strike HSr.out.1)
      have HW6 := Lib.hid hw6
      clear hw6 hx6 hz1 hx5 hxr5 k1 k2 k3 k4 hbM hrM hrB hrM' hrG' hrc5 HPu hqB
      go_wp2_with fail
      rw [HW6.out]
      refine bodyPost_ret (v := .tuple #[.agg #[.int .i64 m9, .slice a9 n9 c9], .bool true]) (by rw [results_ct rfl]; go_simp) rfl ?_
      exact hend.out
  · by_cases k1 : kd = 1
    · subst k1
      obtain ⟨gl, hgl⟩ : ∃ gl, (findC x.L ai).getD [] = gl := ⟨_, rfl⟩
      obtain ⟨isS, his⟩ : ∃ isS, (findC x.L ai).isSome = isS := ⟨_, rfl⟩
      obtain ⟨gn, hgn⟩ : ∃ gn, gl.length = gn := ⟨_, rfl⟩
      have hgr : RngG gl ∧ gl.length ≤ 1000 := find_ok HRL.out hgl
      have hge := rget_any (r :: (Z ++ M)) _ x ai w2 HR2.out HMR2.out HLm.out.1
      unfold RGetPost at hge
      rw [hgl, his, hgn] at hge
      have HGe := Lib.hid hge
      have HGr : Hid (RngG gl ∧ gl.length ≤ 1000 ∧ gl.length = gn ∧ (findC x.L ai).getD [] = gl ∧ (findC x.L ai).isSome = isS) := Lib.hid ⟨hgr.1, hgr.2, hgn, hgl, his⟩
      clear hge hgr hgl his hgn
      go_wp2_with fail
      refine HGe.out.mono ?_
      rintro e w3 ⟨X', fa, fc, rfl, hpf, hrc, hb3, hfp⟩
      have hrcc := hrc
      obtain ⟨a9, n9, c9, es9, rfl, -⟩ := hrcc
      obtain ⟨m9, hm9⟩ : ∃ m9 : Int, ((getC x ai).most : Int) = m9 := ⟨_, rfl⟩
      rw [hm9] at hrc ⊢
      obtain ⟨w4, hw4⟩ : ∃ w4, w3.alloc (.cells #[.int .i64 m9, .slice a9 n9 c9] 28) = w4 := ⟨_, rfl⟩
      obtain ⟨b9, hb9⟩ : ∃ b9, w3.heap.size = b9 := ⟨_, rfl⟩
      have hb4 : Below w3.heap.size w3 w4 := by rw [← hw4]; exact alloc_below _ _
      have hx9 : w4.heap[b9]? = some (.cells #[.int .i64 m9, .slice a9 n9 c9] 28 (0, 0)) := by rw [← hw4, ← hb9]; exact heap_alloc_new _ _
      have hb24 : Below w2.heap.size w2 w4 := hb3.trans (hb4.mono hb3.size)
      have c1' := (hb24.cell (p := ⟨q, 1, none⟩) HSr.out.2.2.2.1).trans c1'
      try simp only at c1'
      have hge := get_any ai HAi.out w4 (HCh.out.below (HB2.out.trans (hb24.mono HB2.out.size)))
      unfold GetPost at hge
      rw [HGr.out.2.2.2.1, HGr.out.2.2.2.2] at hge
      have HG2 := Lib.hid hge
      have HW4 := Lib.hid hw4
      have HB9 := Lib.hid hb9
      have HS3 : Hid (w2.heap.size ≤ b9) := Lib.hid (by have := hb3.size; omega)
      have HX9 := Lib.hid hx9
      have HB24 := Lib.hid hb24
      have HRc := Lib.hid (hrc.below hb4)
      have HPf : Hid (PairsIn .i64 fa gn fc gl w4 ∧ ∀ p o, fa = some ⟨p, o, none⟩ → p ∉ r :: (Z ++ M) ∧ p < w4.heap.size) := Lib.hid ⟨hpf.belowAll hb4, fun p o e => ⟨(hfp p o e).1, Nat.lt_of_lt_of_le (hfp p o e).2 hb4.size⟩⟩
      clear hge hw4 hb9 hb4 hx9 hb24 hrc hpf hfp hb3 hm9 HGe c0 c2 e0 e1
      go_upto_region 9 with fail
      rw [HW4.out, HB9.out]
      go_wp2_with fail
      refine HG2.out.mono ?_
      rintro e wE ⟨v5, rfl, hq5, hch, hk5⟩
      obtain ⟨la, lc, rfl, hp5, -, -⟩ := hq5.shape
      rw [HGr.out.2.2.1] at hp5 ⊢
      have hbM : b9 ∉ M := fun hm => by have := HSr.out.2.2.2.2.1 b9 hm; have := HS3.out; have := HB2.out.size; omega
      have hrM0 : r ∉ M := fun hm => by have := HSr.out.2.2.2.2.1 r hm; have := HSr.out.1; omega
      have hxE := (hk5.block b9 (Array.getElem?_eq_some_iff.1 HX9.out).1 hbM).trans HX9.out
      have hr4 : r < w4.heap.size := Nat.lt_of_lt_of_le HSr.out.2.1 HB24.out.size
      have hxs := (hk5.block r hr4 hrM0).trans ((HB24.out.block r HSr.out.2.1).trans HXr2.out)
      have HXb : Hid (b9 < wE.heap.size ∧ wE.cell? ⟨b9, 0, none⟩ = some (.int .i64 m9) ∧ wE.cell? ⟨b9, 1, none⟩ = some (.slice a9 n9 c9)) := Lib.hid ⟨(Array.getElem?_eq_some_iff.1 hxE).1, by rw [cell_block hxE]; rfl, by rw [cell_block hxE]; rfl⟩
      have HXs : Hid (r < wE.heap.size ∧ wE.heap[r]? = some (.cells #[.int .i64 0, .slice none 0 0] 28 (0, 0))) := Lib.hid ⟨(Array.getElem?_eq_some_iff.1 hxs).1, hxs⟩
      have HLp : Hid (PairsIn .i32 la gn lc gl wE ∧ PairsIn .i64 fa gn fc gl wE ∧ RngG gl ∧ gn ≤ 1000000) := Lib.hid ⟨hp5, PairsIn.blocks HPf.out.1 hk5.size (fun b off e hb => hk5.block b hb (fun hm => (HPf.out.2 b off e).1 (List.mem_cons_of_mem _ (List.mem_append_right _ hm)))), HGr.out.1, by have := HGr.out.2.1; have := HGr.out.2.2.1; omega⟩
      have HChE := Lib.hid hch
      have HRcE : Hid (RefC (r :: (Z ++ M)) (.agg #[.int .i64 m9, .slice a9 n9 c9]) (getC x ai) wE) := Lib.hid (HRc.out.turnedR hk5 (fun p hp => .inl hp))
      have HKE : Hid (KeepB M w wE) := Lib.hid ((KeepB.of_below (HB2.out.trans (HB24.out.mono HB2.out.size))).trans hk5)
      have HStep : Hid (stepC x 1 ai (g.take 20) = getC x ai) := Lib.hid (by unfold stepC; rw [if_neg (by decide), if_pos rfl])
      clear hbM hrM0 hxE hr4 hxs hp5 hch hk5 hq5 HG2 c1'
      have HMm : Hid (∀ p ∈ M, p < w.heap.size) := Lib.hid HSr.out.2.2.2.2.1
      have hrM : r ∉ M := fun hm => by have := HSr.out.2.2.2.2.1 r hm; have := HSr.out.1; omega
      have hrG : r ∉ G := fun hm => by have := HSr.out.2.2.2.2.2.1 r hm; have := HSr.out.1; omega
      have HRM : Hid (r ∉ M ∧ r ∉ G) := Lib.hid ⟨hrM, hrG⟩
      clear hrM hrG
      go_upto_region 10 with fail
      refine Go.Proofs.Ytgagkmlkoeceiaa.R.wp_region_due [7, 9] [1, 0, 0, 0, 0, 0, 0, 1, 2, 2, 2] (by kernel_rfl) (DgS wE r (.int .i64 m9) (.slice a9 n9 c9)) (fun _ _ => True) (DoOk10 m9 a9 n9 c9 isS la fa gn lc fc) (by rfl) (by kernel_rfl) (by kernel_rfl) (by kernel_rfl) (by kernel_rfl) ?hcong ?hOk ?hop ?hdone ?h0
      case hcong => exact fun k f f2 u hs hst => DgS.cong hst
      case hOk => intro i u w1 w2 h hr; unfold DoOk10 at h ⊢; split <;> first | exact True.intro | exact h
      case h0 => exact (Below.refl _ _).drew
      case hop =>
        refine ⟨?_, ?_, ?_, ?_, ?_, ?_, ?_, ?_, ?_, ?_, ?_, trivial⟩
        · intro k z v hk hst hag hdep
          refine .inl ⟨rfl, fun K hK => ?_⟩
          have d14 : z.tmps.getD 14 undef = .pointer (some ⟨b9, 0, none⟩) := hag.2.2 14 (by kernel_rfl)
          have e14 := d14
          rw [Array.getD_eq_getD_getElem?] at e14
          have hb9 := DgE (Nat.le_trans hk (by decide)) hst
          have l0 := (hb9.cell (p := ⟨b9, 0, none⟩) HXb.out.1).trans HXb.out.2.1
          have l1 := (hb9.cell (p := ⟨b9, 1, none⟩) HXb.out.1).trans HXb.out.2.2
          try simp only at l0 l1
          clear hb9
          have HSt := Lib.hid hst
          clear hdep hag hst
          go_simp
          exact hK _ _ trivial rfl HSt.out
        · intro k z v hk hst hag hdep
          refine .inl ⟨rfl, fun K hK => ?_⟩
          have d18 : z.tmps.getD 18 undef = .bool isS := hag.2.2 18 (by kernel_rfl)
          have e18 := d18
          rw [Array.getD_eq_getD_getElem?] at e18
          have HSt := Lib.hid hst
          clear hdep hag hst
          go_simp
          exact hK _ _ trivial rfl HSt.out
        · intro k z v hk hst hag hdep
          refine .inl ⟨rfl, fun K hK => ?_⟩
          have d16 : z.tmps.getD 16 undef = .bool isS := hag.2.2 16 (by kernel_rfl)
          have e16 := d16
          rw [Array.getD_eq_getD_getElem?] at e16
          have HSt := Lib.hid hst
          clear hdep hag hst
          go_simp
          exact hK _ _ trivial rfl HSt.out
        · intro k z v hk hst hag hdep
          refine .inl ⟨rfl, fun K hK => ?_⟩
          have d81 : z.tmps.getD 81 undef = .bool isS := hdep { on := 1, ground := .data } (by simp) rfl _ _ rfl rfl
          have e81 := d81
          rw [Array.getD_eq_getD_getElem?] at e81
          have d82 : z.tmps.getD 82 undef = .bool isS := hdep { on := 2, ground := .data } (by simp) rfl _ _ rfl rfl
          have e82 := d82
          rw [Array.getD_eq_getD_getElem?] at e82
          have q9 : (isS == isS) = true := by simp
          have HSt := Lib.hid hst
          clear hdep hag hst
          go_simp
          exact hK _ _ trivial rfl HSt.out
        · intro k z v hk hst hag hdep
          refine .inl ⟨rfl, fun K hK => ?_⟩
          have d83 : z.tmps.getD 83 undef = .bool true := hdep { on := 3, ground := .data } (by simp) rfl _ _ rfl rfl
          have e83 := d83
          rw [Array.getD_eq_getD_getElem?] at e83
          have HSt := Lib.hid hst
          clear hdep hag hst
          go_simp
          exact hK _ _ trivial rfl HSt.out
        · intro k z v hk hst hag hdep
          have dg : DoOk10 m9 a9 n9 c9 isS la fa gn lc fc 4 (z.tmps.getD 84 undef) v := hdep { on := 4, ground := .guard } (by simp) rfl _ _ rfl rfl
          simp only [DoOk10] at dg
          refine .inl ⟨Go.Proofs.Ytgagkmlkoeceiaa.R.wanted_of (j := 4) rfl rfl rfl dg (by rw [hag.2.1]; show 84 < 119; decide), fun K hK => ?_⟩
          have d17 : z.tmps.getD 17 undef = .slice la gn lc := hag.2.2 17 (by kernel_rfl)
          have e17 := d17
          rw [Array.getD_eq_getD_getElem?] at e17
          have HSt := Lib.hid hst
          clear hdep hag hst
          go_simp
          exact hK _ _ trivial rfl HSt.out
        · intro k z v hk hst hag hdep
          have dg : DoOk10 m9 a9 n9 c9 isS la fa gn lc fc 4 (z.tmps.getD 84 undef) v := hdep { on := 4, ground := .guard } (by simp) rfl _ _ rfl rfl
          simp only [DoOk10] at dg
          refine .inl ⟨Go.Proofs.Ytgagkmlkoeceiaa.R.wanted_of (j := 4) rfl rfl rfl dg (by rw [hag.2.1]; show 84 < 119; decide), fun K hK => ?_⟩
          have d15 : z.tmps.getD 15 undef = .slice fa gn fc := hag.2.2 15 (by kernel_rfl)
          have e15 := d15
          rw [Array.getD_eq_getD_getElem?] at e15
          have HSt := Lib.hid hst
          clear hdep hag hst
          go_simp
          exact hK _ _ trivial rfl HSt.out
        · intro z v hst hag hdep
          have dg : DoOk10 m9 a9 n9 c9 isS la fa gn lc fc 4 (z.tmps.getD 84 undef) v := hdep { on := 4, ground := .guard } (by simp) rfl _ _ rfl rfl
          simp only [DoOk10] at dg
          refine ⟨Go.Proofs.Ytgagkmlkoeceiaa.R.wanted_of (j := 4) rfl rfl rfl dg (by rw [hag.2.1]; show 84 < 119; decide), fun K hK => ?_⟩
          have d85 : z.tmps.getD 85 undef = .slice la gn lc := hdep { on := 5, ground := .data } (by simp) rfl _ _ rfl rfl
          have e85 := d85
          rw [Array.getD_eq_getD_getElem?] at e85
          have d86 : z.tmps.getD 86 undef = .slice fa gn fc := hdep { on := 6, ground := .data } (by simp) rfl _ _ rfl rfl
          have e86 := d86
          rw [Array.getD_eq_getD_getElem?] at e86
          have hb9 := DgE (Nat.zero_le _) hst
          have HGl := Lib.hid (lawGlyphs_any la gn lc gl fa gn fc gl v (HLp.out.1.belowAll hb9) (HLp.out.2.1.belowAll hb9) HLp.out.2.2.1 HLp.out.2.2.2 HLp.out.2.2.2)
          have HBv := Lib.hid hb9
          clear hdep hag hst hb9
          go_simp
          refine HGl.out.mono ?_
          rintro e w' ⟨rfl, h9⟩
          rw [show decide (gl = gl) = true by simp]
          exact hK _ _ trivial rfl (show Below _ _ _ from HBv.out.trans (h9.mono HBv.out.size))
        · intro k z v hk hst hag hdep
          refine .inl ⟨rfl, fun K hK => ?_⟩
          have d84 : z.tmps.getD 84 undef = .bool true := hdep { on := 4, ground := .data } (by simp) rfl _ _ rfl rfl
          have e84 := d84
          rw [Array.getD_eq_getD_getElem?] at e84
          have d87 : z.tmps.getD 87 undef = .bool true := hdep { on := 7, ground := .data } (by simp) rfl _ _ rfl rfl
          have e87 := d87
          rw [Array.getD_eq_getD_getElem?] at e87
          have HSt := Lib.hid hst
          clear hdep hag hst
          go_simp
          exact hK _ _ trivial rfl HSt.out
        · intro z v hst hag hdep
          refine ⟨rfl, fun K hK => ?_⟩
          have d6 : z.tmps.getD 6 undef = .pointer (some ⟨r, 0, none⟩) := hag.2.2 6 (by kernel_rfl)
          have e6 := d6
          rw [Array.getD_eq_getD_getElem?] at e6
          have d80 : z.tmps.getD 80 undef = .agg #[.int .i64 m9, .slice a9 n9 c9] := hdep { on := 0, ground := .data } (by simp) rfl _ _ rfl rfl
          have e80 := d80
          rw [Array.getD_eq_getD_getElem?] at e80
          have hb9 := DgE (Nat.le_refl 1) hst
          have hz := (hb9.block r HXs.out.1).trans HXs.out.2
          have hz1 : (v.setCell ⟨r, 0, none⟩ (.int .i64 m9)).heap[r]? = some (.cells #[.int .i64 m9, .slice none 0 0] 28 (0, 0)) := by simp [World.setCell, Array.getElem?_modify, hz]
          have s0 : v.cell? ⟨r, 0, none⟩ = some (.int .i64 0) := by rw [cell_block hz]; rfl
          have s1 : (v.setCell ⟨r, 0, none⟩ (.int .i64 m9)).cell? ⟨r, 1, none⟩ = some (.slice none 0 0) := by rw [cell_block hz1]; rfl
          have g0 := frozen_block hz 0
          have g1 := frozen_block hz1 1
          have HBv := Lib.hid hb9
          clear hdep hag hst hb9 hz hz1
          go_simp
          exact hK undef _ trivial True.intro ⟨v, HBv.out, EqD.refl _⟩
        · intro k z v hk hst hag hdep
          refine .inl ⟨rfl, fun K hK => ?_⟩
          have d88 : z.tmps.getD 88 undef = .bool true := hdep { on := 8, ground := .data } (by simp) rfl _ _ rfl rfl
          have e88 := d88
          rw [Array.getD_eq_getD_getElem?] at e88
          have HSt := Lib.hid hst
          clear hdep hag hst
          go_simp
          exact hK _ _ trivial rfl HSt.out
      case hdone =>
        intro z w6 hst hag hok
        obtain ⟨u0, hu0, hq6⟩ : ∃ u0, Below wE.heap.size wE u0 ∧ EqD ((u0.setCell ⟨r, 0, none⟩ (.int .i64 m9)).setCell ⟨r, 1, none⟩ (.slice a9 n9 c9)) w6 := hst
        have d7 : z.tmps.getD 7 undef = .bool true := hok 10 _ 7 rfl rfl
        have hzr := (hu0.block r HXs.out.1).trans HXs.out.2
        have hx6 : w6.heap[r]? = some (.cells #[.int .i64 m9, .slice a9 n9 c9] 28 (0, 0)) := by rw [hq6.heap]; exact rc_stored _ _ hzr
        have hend : Hid (P (.returned (.tuple #[.agg #[.int .i64 m9, .slice a9 n9 c9], .bool true])) w6) := Lib.hid (by
          rw [← HP.out]
          unfold DoPost
          rw [HStep.out]
          have hsz : w.heap.size ≤ r := HSr.out.1
          refine ⟨M, G, _, rfl, (((HChE.out.below hu0).two (.int .i64 m9) (.slice a9 n9 c9) HRM.out.1 HRM.out.2).below hq6.below), (((HRcE.out.below hu0).set2 (.int .i64 m9) (.slice a9 n9 c9)).below hq6.below), ?_, fun p hp => .inl hp, fun p hp => .inl hp⟩
          have h1 : KeepB (r :: M) w u0 := (HKE.out.mono (fun i hi => List.mem_cons_of_mem r hi)).trans (KeepB.of_below hu0)
          have h2 : KeepB (r :: M) u0 ((u0.setCell ⟨r, 0, none⟩ (.int .i64 m9)).setCell ⟨r, 1, none⟩ (.slice a9 n9 c9)) := ((KeepB.setCell (w := u0) (q := r) (o := 0) (.int .i64 m9)).trans (KeepB.setCell _)).mono (fun i hi => by rw [(by simpa using hi : i = r)]; simp)
          exact ((h1.trans h2).trans (KeepB.of_below hq6.below)).strike hsz)
        have t0 : w6.cell? ⟨r, 0, none⟩ = some (.int .i64 m9) := by rw [cell_block hx6]; rfl
        have t1 : w6.cell? ⟨r, 1, none⟩ = some (.slice a9 n9 c9) := by rw [cell_block hx6]; rfl
        clear hst hu0 hq6 hzr hx6
        obtain ⟨uu, hu, hzz⟩ := Go.Proofs.Ytgagkmlkoeceiaa.R.agree_frame [80, 81, 82, 83, 84, 85, 86, 87, 88, 7] rfl hag
        have e7 := (hu 7).trans d7
        subst hzz
        simp only [List.foldl_cons, List.foldl_nil]
        rw [e7]
        clear e7 d7 hu hag hok
        try dsimp only [Exit.then]
        simp only [List.setIfInBounds_toArray, List.set_cons_succ, List.set_cons_zero]
        generalize uu 80 = u80', uu 81 = u81', uu 82 = u82', uu 83 = u83', uu 84 = u84', uu 85 = u85', uu 86 = u86', uu 87 = u87', uu 88 = u88'
        clear uu
        go_wp2_with fail
        refine bodyPost_ret (v := .tuple #[.agg #[.int .i64 m9, .slice a9 n9 c9], .bool true]) (by rw [results_ct rfl]; go_simp) rfl ?_
        exact hend.out
    · by_cases k2 : kd = 2
      · subst k2
        obtain ⟨gl, hgl⟩ : ∃ gl, (findC x.L ai).getD [] = gl := ⟨_, rfl⟩
        obtain ⟨isS, his⟩ : ∃ isS, (findC x.L ai).isSome = isS := ⟨_, rfl⟩
        obtain ⟨gn, hgn⟩ : ∃ gn, gl.length = gn := ⟨_, rfl⟩
        have hgr : RngG gl ∧ gl.length ≤ 1000 := find_ok HRL.out hgl
        have hge := rfind_any (r :: (Z ++ M)) _ x ai w2 HR2.out
        unfold FindPost at hge
        rw [hgl, his, hgn] at hge
        have HGe := Lib.hid hge
        have HGr : Hid (RngG gl ∧ gl.length ≤ 1000 ∧ gl.length = gn ∧ (findC x.L ai).getD [] = gl ∧ (findC x.L ai).isSome = isS) := Lib.hid ⟨hgr.1, hgr.2, hgn, hgl, his⟩
        clear hge hgr hgl his hgn
        go_wp2_with fail
        refine HGe.out.mono ?_
        rintro e w3 ⟨fa, fc, rfl, hpf, hfp, hb3⟩
        have c1' := (hb3.cell (p := ⟨q, 1, none⟩) HSr.out.2.2.2.1).trans c1'
        try simp only at c1'
        have hge := peek_any ai HAi.out w3 (HCh.out.below (HB2.out.trans (hb3.mono HB2.out.size)))
        unfold PeekPost at hge
        rw [HGr.out.2.2.2.1, HGr.out.2.2.2.2] at hge
        have HG2 := Lib.hid hge
        have HB23 := Lib.hid hb3
        have HPf := Lib.hid hpf
        clear hge hb3 hpf hfp HGe c0 c2 e0 e1
        go_wp2_with fail
        refine HG2.out.mono ?_
        rintro e wE ⟨v5, rfl, hq5, hb5⟩
        obtain ⟨la, lc, rfl, hp5, -, -⟩ := hq5.shape
        rw [HGr.out.2.2.1] at hp5 ⊢
        have hb2E : Below w2.heap.size w2 wE := HB23.out.trans (hb5.mono HB23.out.size)
        have hxE := (hb2E.block p HSr.out.2.2.1).trans HXp2.out
        have hxs := (hb2E.block r HSr.out.2.1).trans HXr2.out
        have HXb : Hid (p < wE.heap.size ∧ wE.cell? ⟨p, 0, none⟩ = some (.int .i64 (mo : Int)) ∧ wE.cell? ⟨p, 1, none⟩ = some (.slice a n c1)) := Lib.hid ⟨(Array.getElem?_eq_some_iff.1 hxE).1, by rw [cell_block hxE]; rfl, by rw [cell_block hxE]; rfl⟩
        have HXs : Hid (r < wE.heap.size ∧ wE.heap[r]? = some (.cells #[.int .i64 0, .slice none 0 0] 28 (0, 0))) := Lib.hid ⟨(Array.getElem?_eq_some_iff.1 hxs).1, hxs⟩
        have HLp : Hid (PairsIn .i32 la gn lc gl wE ∧ PairsIn .i64 fa gn fc gl wE ∧ RngG gl ∧ gn ≤ 1000000) := Lib.hid ⟨hp5, HPf.out.belowAll hb5, HGr.out.1, by have := HGr.out.2.1; have := HGr.out.2.2.1; omega⟩
        have HChE : Hid (Ch c M G x wE) := Lib.hid (HCh.out.below (HB2.out.trans (hb2E.mono HB2.out.size)))
        have HRcE : Hid (RefC (r :: (Z ++ M)) (.agg #[.int .i64 (mo : Int), .slice a n c1]) x wE) := Lib.hid (HR2.out.below hb2E)
        have HKE : Hid (KeepB M w wE) := Lib.hid (KeepB.of_below (HB2.out.trans (hb2E.mono HB2.out.size)))
        have HStep : Hid (stepC x 2 ai (g.take 20) = x) := Lib.hid (by unfold stepC; rw [if_neg (by decide), if_neg (by decide), if_pos rfl])
        clear hb2E hxE hxs hp5 hb5 hq5 HG2 c1'
        have HMm : Hid (∀ p ∈ M, p < w.heap.size) := Lib.hid HSr.out.2.2.2.2.1
        have hrM : r ∉ M := fun hm => by have := HSr.out.2.2.2.2.1 r hm; have := HSr.out.1; omega
        have hrG : r ∉ G := fun hm => by have := HSr.out.2.2.2.2.2.1 r hm; have := HSr.out.1; omega
        have HRM : Hid (r ∉ M ∧ r ∉ G) := Lib.hid ⟨hrM, hrG⟩
        clear hrM hrG
        go_upto_region 14 with fail
        refine Go.Proofs.Ytgagkmlkoeceiaa.R.wp_region_due [7, 9] [1, 0, 0, 0, 0, 0, 0, 1, 2, 2, 2] (by kernel_rfl) (DgS wE r (.int .i64 (mo : Int)) (.slice a n c1)) (fun _ _ => True) (DoOk14 mo a n c1 isS la fa gn lc fc) (by rfl) (by kernel_rfl) (by kernel_rfl) (by kernel_rfl) (by kernel_rfl) ?hcong ?hOk ?hop ?hdone ?h0
        case hcong => exact fun k f f2 u hs hst => DgS.cong hst
        case hOk => intro i u w1 w2 h hr; unfold DoOk14 at h ⊢; split <;> first | exact True.intro | exact h
        case h0 => exact (Below.refl _ _).drew
        case hop =>
          refine ⟨?_, ?_, ?_, ?_, ?_, ?_, ?_, ?_, ?_, ?_, ?_, trivial⟩
          · intro k z v hk hst hag hdep
            refine .inl ⟨rfl, fun K hK => ?_⟩
            have d4 : z.tmps.getD 4 undef = .pointer (some ⟨p, 0, none⟩) := hag.2.2 4 (by kernel_rfl)
            have e4 := d4
            rw [Array.getD_eq_getD_getElem?] at e4
            have hb9 := DgE (Nat.le_trans hk (by decide)) hst
            have l0 := (hb9.cell (p := ⟨p, 0, none⟩) HXb.out.1).trans HXb.out.2.1
            have l1 := (hb9.cell (p := ⟨p, 1, none⟩) HXb.out.1).trans HXb.out.2.2
            try simp only at l0 l1
            clear hb9
            have HSt := Lib.hid hst
            clear hdep hag hst
            go_simp
            exact hK _ _ trivial rfl HSt.out
          · intro k z v hk hst hag hdep
            refine .inl ⟨rfl, fun K hK => ?_⟩
            have d22 : z.tmps.getD 22 undef = .bool isS := hag.2.2 22 (by kernel_rfl)
            have e22 := d22
            rw [Array.getD_eq_getD_getElem?] at e22
            have HSt := Lib.hid hst
            clear hdep hag hst
            go_simp
            exact hK _ _ trivial rfl HSt.out
          · intro k z v hk hst hag hdep
            refine .inl ⟨rfl, fun K hK => ?_⟩
            have d20 : z.tmps.getD 20 undef = .bool isS := hag.2.2 20 (by kernel_rfl)
            have e20 := d20
            rw [Array.getD_eq_getD_getElem?] at e20
            have HSt := Lib.hid hst
            clear hdep hag hst
            go_simp
            exact hK _ _ trivial rfl HSt.out
          · intro k z v hk hst hag hdep
            refine .inl ⟨rfl, fun K hK => ?_⟩
            have d106 : z.tmps.getD 106 undef = .bool isS := hdep { on := 1, ground := .data } (by simp) rfl _ _ rfl rfl
            have e106 := d106
            rw [Array.getD_eq_getD_getElem?] at e106
            have d107 : z.tmps.getD 107 undef = .bool isS := hdep { on := 2, ground := .data } (by simp) rfl _ _ rfl rfl
            have e107 := d107
            rw [Array.getD_eq_getD_getElem?] at e107
            have q9 : (isS == isS) = true := by simp
            have HSt := Lib.hid hst
            clear hdep hag hst
            go_simp
            exact hK _ _ trivial rfl HSt.out
          · intro k z v hk hst hag hdep
            refine .inl ⟨rfl, fun K hK => ?_⟩
            have d108 : z.tmps.getD 108 undef = .bool true := hdep { on := 3, ground := .data } (by simp) rfl _ _ rfl rfl
            have e108 := d108
            rw [Array.getD_eq_getD_getElem?] at e108
            have HSt := Lib.hid hst
            clear hdep hag hst
            go_simp
            exact hK _ _ trivial rfl HSt.out
          · intro k z v hk hst hag hdep
            have dg : DoOk14 mo a n c1 isS la fa gn lc fc 4 (z.tmps.getD 109 undef) v := hdep { on := 4, ground := .guard } (by simp) rfl _ _ rfl rfl
            simp only [DoOk14] at dg
            refine .inl ⟨Go.Proofs.Ytgagkmlkoeceiaa.R.wanted_of (j := 4) rfl rfl rfl dg (by rw [hag.2.1]; show 109 < 119; decide), fun K hK => ?_⟩
            have d21 : z.tmps.getD 21 undef = .slice la gn lc := hag.2.2 21 (by kernel_rfl)
            have e21 := d21
            rw [Array.getD_eq_getD_getElem?] at e21
            have HSt := Lib.hid hst
            clear hdep hag hst
            go_simp
            exact hK _ _ trivial rfl HSt.out
          · intro k z v hk hst hag hdep
            have dg : DoOk14 mo a n c1 isS la fa gn lc fc 4 (z.tmps.getD 109 undef) v := hdep { on := 4, ground := .guard } (by simp) rfl _ _ rfl rfl
            simp only [DoOk14] at dg
            refine .inl ⟨Go.Proofs.Ytgagkmlkoeceiaa.R.wanted_of (j := 4) rfl rfl rfl dg (by rw [hag.2.1]; show 109 < 119; decide), fun K hK => ?_⟩
            have d19 : z.tmps.getD 19 undef = .slice fa gn fc := hag.2.2 19 (by kernel_rfl)
            have e19 := d19
            rw [Array.getD_eq_getD_getElem?] at e19
            have HSt := Lib.hid hst
            clear hdep hag hst
            go_simp
            exact hK _ _ trivial rfl HSt.out
          · intro z v hst hag hdep
            have dg : DoOk14 mo a n c1 isS la fa gn lc fc 4 (z.tmps.getD 109 undef) v := hdep { on := 4, ground := .guard } (by simp) rfl _ _ rfl rfl
            simp only [DoOk14] at dg
            refine ⟨Go.Proofs.Ytgagkmlkoeceiaa.R.wanted_of (j := 4) rfl rfl rfl dg (by rw [hag.2.1]; show 109 < 119; decide), fun K hK => ?_⟩
            have d110 : z.tmps.getD 110 undef = .slice la gn lc := hdep { on := 5, ground := .data } (by simp) rfl _ _ rfl rfl
            have e110 := d110
            rw [Array.getD_eq_getD_getElem?] at e110
            have d111 : z.tmps.getD 111 undef = .slice fa gn fc := hdep { on := 6, ground := .data } (by simp) rfl _ _ rfl rfl
            have e111 := d111
            rw [Array.getD_eq_getD_getElem?] at e111
            have hb9 := DgE (Nat.zero_le _) hst
            have HGl := Lib.hid (lawGlyphs_any la gn lc gl fa gn fc gl v (HLp.out.1.belowAll hb9) (HLp.out.2.1.belowAll hb9) HLp.out.2.2.1 HLp.out.2.2.2 HLp.out.2.2.2)
            have HBv := Lib.hid hb9
            clear hdep hag hst hb9
            go_simp
            refine HGl.out.mono ?_
            rintro e w' ⟨rfl, h9⟩
            rw [show decide (gl = gl) = true by simp]
            exact hK _ _ trivial rfl (show Below _ _ _ from HBv.out.trans (h9.mono HBv.out.size))
          · intro k z v hk hst hag hdep
            refine .inl ⟨rfl, fun K hK => ?_⟩
            have d109 : z.tmps.getD 109 undef = .bool true := hdep { on := 4, ground := .data } (by simp) rfl _ _ rfl rfl
            have e109 := d109
            rw [Array.getD_eq_getD_getElem?] at e109
            have d112 : z.tmps.getD 112 undef = .bool true := hdep { on := 7, ground := .data } (by simp) rfl _ _ rfl rfl
            have e112 := d112
            rw [Array.getD_eq_getD_getElem?] at e112
            have HSt := Lib.hid hst
            clear hdep hag hst
            go_simp
            exact hK _ _ trivial rfl HSt.out
          · intro z v hst hag hdep
            refine ⟨rfl, fun K hK => ?_⟩
            have d6 : z.tmps.getD 6 undef = .pointer (some ⟨r, 0, none⟩) := hag.2.2 6 (by kernel_rfl)
            have e6 := d6
            rw [Array.getD_eq_getD_getElem?] at e6
            have d105 : z.tmps.getD 105 undef = .agg #[.int .i64 (mo : Int), .slice a n c1] := hdep { on := 0, ground := .data } (by simp) rfl _ _ rfl rfl
            have e105 := d105
            rw [Array.getD_eq_getD_getElem?] at e105
            have hb9 := DgE (Nat.le_refl 1) hst
            have hz := (hb9.block r HXs.out.1).trans HXs.out.2
            have hz1 : (v.setCell ⟨r, 0, none⟩ (.int .i64 (mo : Int))).heap[r]? = some (.cells #[.int .i64 (mo : Int), .slice none 0 0] 28 (0, 0)) := by simp [World.setCell, Array.getElem?_modify, hz]
            have s0 : v.cell? ⟨r, 0, none⟩ = some (.int .i64 0) := by rw [cell_block hz]; rfl
            have s1 : (v.setCell ⟨r, 0, none⟩ (.int .i64 (mo : Int))).cell? ⟨r, 1, none⟩ = some (.slice none 0 0) := by rw [cell_block hz1]; rfl
            have g0 := frozen_block hz 0
            have g1 := frozen_block hz1 1
            have HBv := Lib.hid hb9
            clear hdep hag hst hb9 hz hz1
            go_simp
            exact hK undef _ trivial True.intro ⟨v, HBv.out, EqD.refl _⟩
          · intro k z v hk hst hag hdep
            refine .inl ⟨rfl, fun K hK => ?_⟩
            have d113 : z.tmps.getD 113 undef = .bool true := hdep { on := 8, ground := .data } (by simp) rfl _ _ rfl rfl
            have e113 := d113
            rw [Array.getD_eq_getD_getElem?] at e113
            have HSt := Lib.hid hst
            clear hdep hag hst
            go_simp
            exact hK _ _ trivial rfl HSt.out
        case hdone =>
          intro z w6 hst hag hok
          obtain ⟨u0, hu0, hq6⟩ : ∃ u0, Below wE.heap.size wE u0 ∧ EqD ((u0.setCell ⟨r, 0, none⟩ (.int .i64 (mo : Int))).setCell ⟨r, 1, none⟩ (.slice a n c1)) w6 := hst
          have d7 : z.tmps.getD 7 undef = .bool true := hok 10 _ 7 rfl rfl
          have hzr := (hu0.block r HXs.out.1).trans HXs.out.2
          have hx6 : w6.heap[r]? = some (.cells #[.int .i64 (mo : Int), .slice a n c1] 28 (0, 0)) := by rw [hq6.heap]; exact rc_stored _ _ hzr
          have hend : Hid (P (.returned (.tuple #[.agg #[.int .i64 (mo : Int), .slice a n c1], .bool true])) w6) := Lib.hid (by
            rw [← HP.out]
            unfold DoPost
            rw [HStep.out]
            have hsz : w.heap.size ≤ r := HSr.out.1
            refine ⟨M, G, _, rfl, (((HChE.out.below hu0).two (.int .i64 (mo : Int)) (.slice a n c1) HRM.out.1 HRM.out.2).below hq6.below), (((HRcE.out.below hu0).set2 (.int .i64 (mo : Int)) (.slice a n c1)).below hq6.below), ?_, fun p hp => .inl hp, fun p hp => .inl hp⟩
            have h1 : KeepB (r :: M) w u0 := (HKE.out.mono (fun i hi => List.mem_cons_of_mem r hi)).trans (KeepB.of_below hu0)
            have h2 : KeepB (r :: M) u0 ((u0.setCell ⟨r, 0, none⟩ (.int .i64 (mo : Int))).setCell ⟨r, 1, none⟩ (.slice a n c1)) := ((KeepB.setCell (w := u0) (q := r) (o := 0) (.int .i64 (mo : Int))).trans (KeepB.setCell _)).mono (fun i hi => by rw [(by simpa using hi : i = r)]; simp)
            exact ((h1.trans h2).trans (KeepB.of_below hq6.below)).strike hsz)
          have t0 : w6.cell? ⟨r, 0, none⟩ = some (.int .i64 (mo : Int)) := by rw [cell_block hx6]; rfl
          have t1 : w6.cell? ⟨r, 1, none⟩ = some (.slice a n c1) := by rw [cell_block hx6]; rfl
          clear hst hu0 hq6 hzr hx6
          obtain ⟨uu, hu, hzz⟩ := Go.Proofs.Ytgagkmlkoeceiaa.R.agree_frame [105, 106, 107, 108, 109, 110, 111, 112, 113, 7] rfl hag
          have e7 := (hu 7).trans d7
          subst hzz
          simp only [List.foldl_cons, List.foldl_nil]
          rw [e7]
          clear e7 d7 hu hag hok
          try dsimp only [Exit.then]
          simp only [List.setIfInBounds_toArray, List.set_cons_succ, List.set_cons_zero]
          generalize uu 105 = u105', uu 106 = u106', uu 107 = u107', uu 108 = u108', uu 109 = u109', uu 110 = u110', uu 111 = u111', uu 112 = u112', uu 113 = u113'
          clear uu
          go_wp2_with fail
          refine bodyPost_ret (v := .tuple #[.agg #[.int .i64 (mo : Int), .slice a n c1], .bool true]) (by rw [results_ct rfl]; go_simp) rfl ?_
          exact hend.out
      · have hk0 : (kd == 0) = false := by simpa using k0
        have hk1 : (kd == 1) = false := by simpa using k1
        have hk2 : (kd == 2) = false := by simpa using k2
        have hcl := clear_any w2 (HCh.out.below HB2.out)
        unfold ClrPost at hcl
        have HCl := Lib.hid hcl
        clear hcl
        go_wp2_with fail
        refine HCl.out.mono ?_
        rintro e w5 ⟨rfl, M', hch, hk5, hM5⟩
        have hpM : p ∉ M := fun hm => by have := HSr.out.2.2.2.2.1 p hm; have h9 := HPw.out; omega
        have hrM : r ∉ M := fun hm => by have := HSr.out.2.2.2.2.1 r hm; have := HSr.out.1; omega
        have hrG : r ∉ G := fun hm => by have := HSr.out.2.2.2.2.2.1 r hm; have := HSr.out.1; omega
        have hrM' : r ∉ M' := fun hm => (hM5 r hm).elim hrM (fun h => by have := HSr.out.2.1; omega)
        have hx5 := (hk5.block p HSr.out.2.2.1 hpM).trans HXp2.out
        have hr5 := (hk5.block r HSr.out.2.1 hrM).trans HXr2.out
        have e0 : w5.cell? ⟨p, 0, none⟩ = some (.int .i64 (mo : Int)) := by rw [cell_block hx5]; rfl
        have hz1 : (w5.setCell ⟨r, 0, none⟩ (.int .i64 (mo : Int))).heap[r]? = some (.cells #[.int .i64 (mo : Int), .slice none 0 0] 28 (0, 0)) := by simp [World.setCell, Array.getElem?_modify, hr5]
        have s0 : w5.cell? ⟨r, 0, none⟩ = some (.int .i64 0) := by rw [cell_block hr5]; rfl
        have s1 : (w5.setCell ⟨r, 0, none⟩ (.int .i64 (mo : Int))).cell? ⟨r, 1, none⟩ = some (.slice none 0 0) := by rw [cell_block hz1]; rfl
        have g0 := frozen_block hr5 0
        have g1 := frozen_block hz1 1
        obtain ⟨w6, hw6⟩ : ∃ w6, (w5.setCell ⟨r, 0, none⟩ (.int .i64 (mo : Int))).setCell ⟨r, 1, none⟩ (.slice none 0 0) = w6 := ⟨_, rfl⟩
        have hx6 : w6.heap[r]? = some (.cells #[.int .i64 (mo : Int), .slice none 0 0] 28 (0, 0)) := by rw [← hw6]; exact rc_stored _ _ hr5
        have t0 : w6.cell? ⟨r, 0, none⟩ = some (.int .i64 (mo : Int)) := by rw [cell_block hx6]; rfl
        have t1 : w6.cell? ⟨r, 1, none⟩ = some (.slice none 0 0) := by rw [cell_block hx6]; rfl
        have hend : Hid (P (.returned (.tuple #[.agg #[.int .i64 (mo : Int), .slice none 0 0], .bool true])) w6) := Lib.hid (by
          rw [← HP.out]
          have e9 : stepC x kd ai (g.take 20) = ⟨mo, []⟩ := by unfold stepC; rw [if_neg k0, if_neg k1, if_neg k2, HSr.out.2.2.2.2.2.2]
          unfold DoPost
          rw [e9]
          rw [HSr.out.2.2.2.2.2.2] at hch
          have hkk : KeepB M w w5 := (KeepB.of_below HB2.out).trans hk5
          refine ⟨M', G, _, rfl, by rw [← hw6]; exact hch.two _ _ hrM' hrG, RefC.empty _ _ _, ?_, fun p hp => (hM5 p hp).imp id (fun h => Nat.le_trans HB2.out.size h), fun p hp => .inl hp⟩
          rw [← hw6]
          exact ((hkk.mono (fun i hi => List.mem_cons_of_mem r hi)).trans (((KeepB.setCell (w := w5) (q := r) (o := 0) (.int .i64 (mo : Int))).trans (KeepB.setCell _)).mono (fun i hi => by rw [(by simpa using hi : i = r)]; simp))).strike HSr.out.1)
        have HW6 := Lib.hid hw6
        clear hw6 hx6 hz1 hx5 hr5 hch hk5 hM5 hpM hrM hrG hrM' HCl
        go_wp2_with fail
        rw [HW6.out]
        refine bodyPost_ret (v := .tuple #[.agg #[.int .i64 (mo : Int), .slice none 0 0], .bool true]) (by rw [results_ct rfl]; go_simp) rfl ?_
        exact hend.out
end Go.Proofs.Ytgagkmlkoeceiaa.C
