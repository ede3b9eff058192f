/- slices.Replace of spans. -/
import Derived.Test.YtgagkmlkoeceiaaHGrow
import Derived.Test.YtgagkmlkoeceiaaRelT
import Derived.Test.YtgagkmlkoeceiaaRelU
namespace Go.Proofs.Ytgagkmlkoeceiaa.H
open Go.RowKit Go.Shelf

/-- in place, where there is room -/
theorem append_fits {q n cap : Nat} {l : List Sp} {a : Option Addr} {m c : Nat} {l2 : List Sp} {w : World} (hown : OwnP .i64 81 0 (.slice (some ⟨q, 0, none⟩) n cap) l w) (h : PairsIn .i64 a m c l2 w) (hnil : a = none → c = 0) (hr : n + m ≤ cap) :
    ∃ w', (∀ ty, (Builtin.append_ #[67, 67] ty #[.slice (some ⟨q, 0, none⟩) n cap, .slice a m c]).run Try.prog w = .ok (.slice (some ⟨q, 0, none⟩) (n + m) cap) w') ∧ OwnP .i64 81 0 (.slice (some ⟨q, 0, none⟩) (n + m) cap) (l ++ l2) w' ∧ KeepB [q] w w' := by
  obtain ⟨i0, hi, hz0, hz1, hz2⟩ := info_parts spanT.info
  have hl := h.len
  obtain ⟨-, -, -, -, hn, -⟩ := hown.rowC
  have hown' : w.ownsRow 0 81 2 (.slice (some ⟨q, 0, none⟩) n cap) n (flatP .i64 l) := by have h1 := hown; unfold OwnP at h1; rw [← hn] at h1; exact h1
  cases a with
  | none =>
    have h0 : l2 = [] := h.at_.resolve_right (by rintro ⟨b, off, e, -⟩; cases e)
    subst h0
    obtain rfl : m = 0 := hl
    obtain rfl := hnil rfl
    refine ⟨w, fun ty => run_append_owned_none w 0 67 ty _ i0 2 sl_span hi _ n _ hown', by rw [List.append_nil]; exact hown, KeepB.refl _ _⟩
  | some ad =>
    obtain ⟨b, off, sp⟩ := ad
    have hnews : ∀ j u, (flatP .i64 l2)[j]? = some u → w.cell? ((⟨b, off, sp⟩ : Addr).add j) = some u := by
      rcases h.at_ with rfl | ⟨b', off', e, h3⟩
      · intro j u hj; simp [flatP] at hj
      · obtain ⟨rfl, rfl, rfl⟩ : b = b' ∧ off = off' ∧ sp = none := by injection e with e; injection e with e1 e2 e3; exact ⟨e1, e2, e3⟩
        exact h.news
    obtain ⟨w', hr1, hr2, hr3⟩ := run_append_fits (P := Try.prog) w 0 67 67 81 i0 2 sl_span hi hz1 q n cap (flatP .i64 l) hown' ⟨b, off, sp⟩ m c (flatP .i64 l2) (by rw [flatP_len, hl]) hnews (flatP_one .i64 l2) hr
    have hrun : ∀ ty, (Builtin.append_ #[67, 67] ty #[.slice (some ⟨q, 0, none⟩) n cap, .slice (some ⟨b, off, sp⟩) m c]).run Try.prog w = .ok (.slice (some ⟨q, 0, none⟩) (n + m) cap) w' := fun ty => hr1
    refine ⟨w', hrun, ?_, KeepB.of_grown hr3⟩
    unfold OwnP
    rw [flatP_append, List.length_append, ← hl, ← hn]
    exact hr2
theorem OwnP.front {base q n cap i : Nat} {l : List Sp} {w : World} (h : OwnP .i64 81 base (.slice (some ⟨q, 0, none⟩) n cap) l w) (hi : i ≤ n) : OwnP .i64 81 base (.slice (some ⟨q, 0, none⟩) i cap) (l.take i) w := by
  rcases h.2 with ⟨e, _⟩ | ⟨g, c, cur, e, hb, hg, hc, hm, hs, ht⟩
  · cases e
  · obtain ⟨rfl, hn, rfl⟩ : q = g ∧ n = l.length ∧ cap = c := by injection e with e e2 e3; injection e with e; injection e with e4; exact ⟨e4, e2, e3⟩
    have hli : (l.take i).length = i := by rw [List.length_take]; omega
    refine ⟨by rw [flatP_len], .inr ⟨q, cap, cur, by rw [hli], hb, hg, by omega, hm, hs, ?_⟩⟩
    rw [hli, flatP_takeD, ← ht, List.take_take, Nat.min_eq_left (by omega)]
set_option maxRecDepth 100000 in
set_option maxHeartbeats 8000000 in
theorem replace_end (q n cap i j m c2 : Nat) (a2 : Option Addr) (l vs : List Sp) (w : World) (hown : OwnP .i64 81 0 (.slice (some ⟨q, 0, none⟩) n cap) l w) (hij : i < j) (hjn : j = n) (hjn2 : j ≤ n) (hr : i + m ≤ cap) (hl : n + m ≤ 1000000) (hV : PairsIn .i64 a2 m c2 vs w) (hsp : ∀ x, a2 = some x → x = ⟨x.block, x.off, none⟩) (hnil : a2 = none → c2 = 0) :
    Calls Try.prog 40 #[.slice (some ⟨q, 0, none⟩) n cap, .int .i64 (i : Int), .int .i64 (j : Int), .slice a2 m c2] w (RepPost (.slice (some ⟨q, 0, none⟩) n cap) (l.take i ++ vs ++ l.drop j) w) := by
  obtain ⟨P, hP⟩ : ∃ P, RepPost (.slice (some ⟨q, 0, none⟩) n cap) (l.take i ++ vs ++ l.drop j) w = P := ⟨_, rfl⟩
  rw [hP]
  have HP := Lib.hid hP
  obtain ⟨C, hC, hCl, hCt, hn, hnc, hcm, -⟩ := hown.rowC
  have hml := hV.len
  have hti : (l.take i).length = i := by rw [List.length_take]; omega
  have hdj : (l.drop j).length = n - j := by rw [List.length_drop, hn]
  have hlen : (l.take i ++ vs ++ l.drop j).length = i + m + (n - j) := by rw [List.length_append, List.length_append, hti, hdj, hml]
  subst hjn
  obtain ⟨w1, hr1, ho1, hk1⟩ := append_fits (hown.front (i := i) (by omega)) hV hnil hr
  have hfin : l.take i ++ vs ++ l.drop j = l.take i ++ vs := by rw [List.drop_of_length_le (by omega), List.append_nil]
  have hjc : j ≤ cap := by omega
  have hic : i ≤ cap := by omega
  have hci : ¬ (cap = i) := by omega
  have hii : (i : Int) ≤ (j : Int) := by omega
  have hne : ¬ ((i : Int) = (j : Int)) := by omega
  have hin : (i : Int) ≤ (j : Int) := by omega
  have hjj : (j : Int) ≤ (j : Int) := Int.le_refl _
  have HEnd : Hid (∀ w2, KeepB [q] w w2 → OwnP .i64 81 0 (.slice (some ⟨q, 0, none⟩) (i + m) cap) (l.take i ++ vs) w2 → P (.returned (.slice (some ⟨q, 0, none⟩) (i + m) cap)) w2) := Lib.hid (fun w2 hk ho => by
    rw [← HP.out, hfin]
    exact ⟨_, rfl, ho, hk, fun p hp => .inl hp⟩)
  have HR1 := Lib.hid hr1
  by_cases hlt : i + m < j
  · obtain ⟨C1, hC1, hCl1, hCt1, -, -, -, -⟩ := ho1.rowC
    obtain ⟨w2, hr2, hk2, Z, hZ, hC2⟩ := clearC hC1 0 ((i + m) * 2) (j - (i + m)) (cap - (i + m)) (by rw [hCl1]; omega)
    have ho2 : OwnP .i64 81 0 (.slice (some ⟨q, 0, none⟩) (i + m) cap) (l.take i ++ vs) w2 := by
      have hl2 : (l.take i ++ vs).length = i + m := by rw [List.length_append, hti, ← hml]
      have := hC2.own (cap := cap) (l := l.take i ++ vs) (by simp only [List.length_append, List.length_take, List.length_drop, hZ, hCl1]; omega) (by
        rw [List.append_assoc, hl2, List.take_append_of_le_length (by rw [List.length_take, hCl1]; omega), List.take_take, Nat.min_self, ← hCt1, hl2]) (by rw [hl2]; omega) hcm
      rw [hl2] at this
      exact this
    have HE := Lib.hid (HEnd.out w2 (hk1.trans hk2) ho2)
    have hcim : ¬ (cap = i + m) := by omega
    have hd1 : ((i + m : Nat) : Int) < (j : Int) := by omega
    have hd1' : (i : Int) + (m : Int) < (j : Int) := by omega
    have hd2 : decide (i + m < j) = true := by simpa using hlt
    have hd3 : ((i : Int) + (m : Int)).toNat = i + m := by omega
    have hd4 : (0 : Int) ≤ (i : Int) + (m : Int) := by omega
    have hd5 : (i : Int) + (m : Int) ≤ (j : Int) := by omega
    clear hP hown hC hCl hCt hn hnc hcm hml hti hdj hlen hV hsp hnil hr1 ho1 hk1 hfin HEnd hC1 hCl1 hCt1 hk2 hZ hC2 ho2 hlt
    go_enter Try.func40, Try.ntmps40
    go_wp2_with (at_builtin; refine wpList_append_run rfl _ _ _ _ rfl _ _ rfl rfl (HR1.out _) ?_)
    exact HE.out
  · have HE := Lib.hid (HEnd.out w1 hk1 ho1)
    have hd1 : ¬ ((i + m : Nat) : Int) < (j : Int) := by omega
    have hd1' : ¬ ((i : Int) + (m : Int) < (j : Int)) := by omega
    have hd2 : decide (i + m < j) = false := by simpa using hlt
    clear hP hown hC hCl hCt hn hnc hcm hml hti hdj hlen hV hsp hnil hr1 ho1 hk1 hfin HEnd hlt
    go_enter Try.func40, Try.ntmps40
    go_wp2_with (at_builtin; refine wpList_append_run rfl _ _ _ _ rfl _ _ rfl rfl (HR1.out _) ?_)
    exact HE.out
set_option maxRecDepth 100000 in
set_option maxHeartbeats 8000000 in
theorem replace_endgrow (q n cap i j m c2 : Nat) (a2 : Option Addr) (l vs : List Sp) (w : World) (hown : OwnP .i64 81 0 (.slice (some ⟨q, 0, none⟩) n cap) l w) (hij : i < j) (hjn : j = n) (hjn2 : j ≤ n) (hr : cap < i + m) (hl : n + m ≤ 1000000) (hV : PairsIn .i64 a2 m c2 vs w) (hsp : ∀ x, a2 = some x → x = ⟨x.block, x.off, none⟩) (hnil : a2 = none → c2 = 0) :
    Calls Try.prog 40 #[.slice (some ⟨q, 0, none⟩) n cap, .int .i64 (i : Int), .int .i64 (j : Int), .slice a2 m c2] w (RepPost (.slice (some ⟨q, 0, none⟩) n cap) (l.take i ++ vs ++ l.drop j) w) := by
  obtain ⟨P, hP⟩ : ∃ P, RepPost (.slice (some ⟨q, 0, none⟩) n cap) (l.take i ++ vs ++ l.drop j) w = P := ⟨_, rfl⟩
  rw [hP]
  have HP := Lib.hid hP
  obtain ⟨C, hC, hCl, hCt, hn, hnc, hcm, -⟩ := hown.rowC
  have hml := hV.len
  have hti : (l.take i).length = i := by rw [List.length_take]; omega
  have hdj : (l.drop j).length = n - j := by rw [List.length_drop, hn]
  have hlen : (l.take i ++ vs ++ l.drop j).length = i + m + (n - j) := by rw [List.length_append, List.length_append, hti, hdj, hml]
  subst hjn
  have hfr := hown.front (i := i) (by omega)
  have hfin : l.take i ++ vs ++ l.drop j = l.take i ++ vs := by rw [List.drop_of_length_le (by omega), List.append_nil]
  have hjc : j ≤ cap := by omega
  have hic : i ≤ cap := by omega
  have hci : ¬ (cap = i) := by omega
  have hii : (i : Int) ≤ (j : Int) := by omega
  have hne : ¬ ((i : Int) = (j : Int)) := by omega
  have hin : (i : Int) ≤ (j : Int) := by omega
  have hjj : (j : Int) ≤ (j : Int) := Int.le_refl _
  have HFr := Lib.hid hfr
  have HV := Lib.hid hV
  have HNil := Lib.hid hnil
  have HLa : Hid (((l.take i).length : Int) ≤ 1000000 ∧ (vs.length : Int) ≤ 1000000) := Lib.hid ⟨by omega, by omega⟩
  have HEnd : Hid (∀ v' w2, GrewP .i64 81 0 (.slice (some ⟨q, 0, none⟩) i cap) (l.take i ++ vs) w v' w2 → P (.returned v') w2) := Lib.hid (fun v' w2 h => by
    rw [← HP.out, hfin]
    refine ⟨v', rfl, h.own, ?_, fun p hp => h.block p hp⟩
    have hg := h.grown
    exact KeepB.of_grown hg)
  have HTi : Hid ((l.take i ++ vs).length = i + m) := Lib.hid (by rw [List.length_append, hti, ← hml])
  have hd1 : ¬ ((i + m : Nat) : Int) < (j : Int) := by omega
  have hd1' : ¬ ((i : Int) + (m : Int) < (j : Int)) := by omega
  have hd2 : decide (i + m < j) = false := by simpa using (show j ≤ i + m by omega)
  clear hP hown hC hCl hCt hn hnc hcm hml hti hdj hlen hV hsp hnil hfr hfin
  go_enter Try.func40, Try.ntmps40
  go_wp2_with (at_builtin; refine wpList_append_p spanT rfl _ _ rfl rfl 0 _ (l.take i) a2 m c2 vs rfl rfl HFr.out HV.out HNil.out HLa.out.1 HLa.out.2 (Nat.zero_le _) ?_)
  intro v' w1 hg
  have HE := Lib.hid (HEnd.out v' w1 hg)
  obtain ⟨a', c', hv', -⟩ := hg.own.shape
  rw [HTi.out] at hv'
  subst hv'
  clear hg
  go_wp2_with fail
  exact HE.out
def R18Ok (q n cap i j m c2 : Nat) (a2 : Option Addr) : Nat → Value → World → Prop
  | 0, u, _ => u = .slice (some ⟨q, 0, none⟩) (i + m + (n - j)) cap
  | 1, u, _ => u = .int .i64 (i : Int)
  | 2, u, _ => u = .slice a2 m c2
  | 3, u, _ => u = .int .i64 (m : Int)
  | 4, u, _ => u = .int .i64 ((i : Int) + (m : Int))
  | 5, u, _ => u = .slice (some ⟨q, (i + m) * 2, none⟩) (n - j) (cap - (i + m))
  | 6, u, _ => u = .slice (some ⟨q, 0, none⟩) n cap
  | 7, u, _ => u = .int .i64 (j : Int)
  | 8, u, _ => u = .slice (some ⟨q, j * 2, none⟩) (n - j) (cap - j)
  | _, _, _ => True
set_option maxRecDepth 100000 in
set_option maxHeartbeats 8000000 in
theorem replace_fit (q n cap i j m c2 : Nat) (a2 : Option Addr) (l vs : List Sp) (w : World) (hown : OwnP .i64 81 0 (.slice (some ⟨q, 0, none⟩) n cap) l w) (hij : i < j) (hjn : j < n) (hr : i + m ≤ j) (hl : n + m ≤ 1000000) (hV : PairsIn .i64 a2 m c2 vs w) (hsp : ∀ x, a2 = some x → x = ⟨x.block, x.off, none⟩) (hap : ∀ x, a2 = some x → x.block ≠ q) :
    Calls Try.prog 40 #[.slice (some ⟨q, 0, none⟩) n cap, .int .i64 (i : Int), .int .i64 (j : Int), .slice a2 m c2] w (RepPost (.slice (some ⟨q, 0, none⟩) n cap) (l.take i ++ vs ++ l.drop j) w) := by
  obtain ⟨P, hP⟩ : ∃ P, RepPost (.slice (some ⟨q, 0, none⟩) n cap) (l.take i ++ vs ++ l.drop j) w = P := ⟨_, rfl⟩
  rw [hP]
  have HP := Lib.hid hP
  obtain ⟨C, hC, hCl, hCt, hn, hnc, hcm, -⟩ := hown.rowC
  have hml := hV.len
  have hti : (l.take i).length = i := by rw [List.length_take]; omega
  have hdj : (l.drop j).length = n - j := by rw [List.length_drop, hn]
  have hlen : (l.take i ++ vs ++ l.drop j).length = i + m + (n - j) := by rw [List.length_append, List.length_append, hti, hdj, hml]
  have hjc : j ≤ cap := by omega
  have hic : i ≤ cap := by omega
  have hci : ¬ (cap = i) := by omega
  have hii : (i : Int) ≤ (j : Int) := by omega
  have hne : ¬ ((i : Int) = (j : Int)) := by omega
  have hin : (i : Int) ≤ (n : Int) := by omega
  have hjc2 : ¬ (cap = j) := by omega
  have hnj : ¬ ((j : Int) = (n : Int)) := by omega
  have hjn3 : (j : Int) ≤ (n : Int) := by omega
  have hs1 : IntKind.i64.wrap ((i : Int) + (m : Int)) = (i : Int) + (m : Int) := by rw [IntKind.wrap_i64]; omega
  have hs0 : (0 : Int) ≤ (i : Int) + (m : Int) := by omega
  have hs5 : (i : Int) + (m : Int) ≤ (i : Int) + (m : Int) + ((n - j : Nat) : Int) := by omega
  have hs4 : ((i : Int) + (m : Int)).toNat = i + m := by omega
  obtain ⟨R, hR⟩ : ∃ R : Nat, n - j = R := ⟨_, rfl⟩
  obtain ⟨T, hT⟩ : ∃ T : Nat, i + m + (n - j) = T := ⟨_, rfl⟩
  have hRi : (n : Int) - (j : Int) = (R : Int) := by omega
  have hsum : (i : Int) + (m : Int) + (R : Int) = (T : Int) := by omega
  have hs2 : IntKind.i64.wrap ((i : Int) + (m : Int) + (R : Int)) = (T : Int) := by rw [IntKind.wrap_i64]; omega
  have hs3 : (0 : Int) ≤ (i : Int) + (m : Int) + (R : Int) := by omega
  have HRT := Lib.hid (And.intro hR hT)
  have hTn : T ≤ n := by omega
  have hTc : T ≤ cap := by omega
  have hTi : (T : Int) ≤ (cap : Int) := by omega
  have hgt : ¬ ((cap : Int) < (T : Int)) := by omega
  clear hR hT
  have HC := Lib.hid hC
  have HF := Lib.hid (And.intro hCl (And.intro hCt (And.intro hn (And.intro hcm (And.intro hml (And.intro hti (And.intro hdj (And.intro hV (And.intro hsp (And.intro hlen hap))))))))))
  have hnc2 : n ≤ cap := hnc
  have hijm : (i : Int) + (m : Int) ≤ (j : Int) := by omega
  have hcim : ¬ (cap = i + m) := by omega
  have hiT : (i : Int) ≤ (T : Int) := by omega
  have himT : (i : Int) + (m : Int) ≤ (T : Int) := by omega
  clear hP hown hC hCl hCt hn hnc hcm hml hti hdj hlen hV hsp hap
  go_enter Try.func40, Try.ntmps40
  go_upto_region 9 with fail
  refine wp_region_quiet_below (by kernel_rfl) (by kernel_rfl) ?_
  repeat (go_big_quiet_step (fail))
  refine wpQuiet_nil ?_
  intro _ hw'
  obtain ⟨⟨dq, osq⟩, hw''⟩ := hw'
  have HB1 : Hid (Below w.heap.size w (Go.Sort.grow (redrawn w dq) osq)) := Lib.hid (below_regrown _ _ _)
  rw [hw'']
  simp only
  generalize Go.Sort.grow (redrawn w dq) osq = w1 at HB1 ⊢
  clear hw''
  obtain ⟨hCl, hCt, hn, hcm, hml, hti, hdj, hV, hsp, hlen, hap⟩ := HF.out
  have hC1 : RowC q C w1 := (HB1.out.block q (Array.getElem?_eq_some_iff.1 HC.out).1).trans HC.out
  have hV1 := hV.belowAll HB1.out
  rw [hml] at hV1
  have q1 : i + vs.length ≤ cap := by rw [← hml]; clear hs4 hs1 hs2 hs3 hsum hRi; omega
  have q2 : vs.length ≤ i + m + (n - j) - i := by rw [← hml]; clear hs4 hs1 hs2 hs3 hsum hRi; omega
  obtain ⟨C2, w2, hr2, hC2, hk2, hl2, ht2, hd2⟩ := copy_put hC1 hCl (by rw [flatP_takeD, ← hCt, List.take_take, Nat.min_eq_left (by rw [← hn]; clear hs4 hs1 hs2 hs3 hsum hRi; omega)]) hti q1 (i + m + (n - j) - i) q2 a2 c2 hV1 hsp
  rw [← hml] at hr2 ht2 hd2
  have e2 := fun dc => hr2 3 dc
  have H2 := Lib.hid (And.intro hC2 (And.intro hk2 (And.intro hl2 (And.intro ht2 hd2))))
  clear hCl hCt hn hcm hml hti hdj hV hsp hlen hap hC1 hV1 q1 q2 hr2 hC2 hk2 hl2 ht2 hd2
  go_wp2_with fail
  clear e2
  refine Go.Proofs.Ytgagkmlkoeceiaa.R.wp_region_tailT 9 (by kernel_rfl) (fun u => Below w2.heap.size w2 u) (fun u v => Below u.heap.size u v) (R18Ok q n cap i j m c2 a2) (by rfl) (by kernel_rfl) (by decide) (by kernel_rfl) (by kernel_rfl) (by kernel_rfl) ?hC ?hOk ?hop ?hdone ((Below.refl _ _).drew)
  case hC => exact fun u v h1 h2 => h1.trans (h2.mono h1.size)
  case hOk =>
    intro i u w1 w2 h hr
    unfold R18Ok at h ⊢
    split <;> first | exact True.intro | exact h
  case hop =>
    refine ⟨?_, ?_, ?_, ?_, ?_, ?_, ?_, ?_, ?_, trivial⟩
    · intro z v hz hag hdep
      refine .inl ⟨rfl, fun K hK => ?_⟩
      have d12 : z.tmps.getD 12 undef = .slice (some ⟨q, 0, none⟩) (i + m + (n - j)) cap := hag.2.2 12 (by kernel_rfl)
      have e12 := d12
      rw [Array.getD_eq_getD_getElem?] at e12
      clear hz
      clear hdep hag 
      go_simp
      exact hK _ _ (Below.refl _ _) rfl
    · intro z v hz hag hdep
      refine .inl ⟨rfl, fun K hK => ?_⟩
      have d1 : z.tmps.getD 1 undef = .int .i64 (i : Int) := hag.2.2 1 (by kernel_rfl)
      have e1 := d1
      rw [Array.getD_eq_getD_getElem?] at e1
      clear hz
      clear hdep hag 
      go_simp
      exact hK _ _ (Below.refl _ _) rfl
    · intro z v hz hag hdep
      refine .inl ⟨rfl, fun K hK => ?_⟩
      have d3 : z.tmps.getD 3 undef = .slice a2 m c2 := hag.2.2 3 (by kernel_rfl)
      have e3 := d3
      rw [Array.getD_eq_getD_getElem?] at e3
      clear hz
      clear hdep hag 
      go_simp
      exact hK _ _ (Below.refl _ _) rfl
    · intro z v hz hag hdep
      refine .inl ⟨rfl, fun K hK => ?_⟩
      have d100 : z.tmps.getD 100 undef = .slice a2 m c2 := hdep { on := 2, ground := .data } (by simp) rfl _ _ rfl rfl
      have e100 := d100
      rw [Array.getD_eq_getD_getElem?] at e100
      clear hz
      clear hdep hag 
      go_simp
      exact hK _ _ (Below.refl _ _) rfl
    · intro z v hz hag hdep
      refine .inl ⟨rfl, fun K hK => ?_⟩
      have d99 : z.tmps.getD 99 undef = .int .i64 (i : Int) := hdep { on := 1, ground := .data } (by simp) rfl _ _ rfl rfl
      have e99 := d99
      rw [Array.getD_eq_getD_getElem?] at e99
      have d101 : z.tmps.getD 101 undef = .int .i64 (m : Int) := hdep { on := 3, ground := .data } (by simp) rfl _ _ rfl rfl
      have e101 := d101
      rw [Array.getD_eq_getD_getElem?] at e101
      clear hz
      clear hdep hag 
      go_simp
      exact hK _ _ (Below.refl _ _) rfl
    · intro z v hz hag hdep
      refine .inl ⟨rfl, fun K hK => ?_⟩
      have d98 : z.tmps.getD 98 undef = .slice (some ⟨q, 0, none⟩) (i + m + (n - j)) cap := hdep { on := 0, ground := .data } (by simp) rfl _ _ rfl rfl
      have e98 := d98
      rw [Array.getD_eq_getD_getElem?] at e98
      have d102 : z.tmps.getD 102 undef = .int .i64 ((i : Int) + (m : Int)) := hdep { on := 4, ground := .data } (by simp) rfl _ _ rfl rfl
      have e102 := d102
      rw [Array.getD_eq_getD_getElem?] at e102
      clear hz
      clear hdep hag 
      go_simp
      exact hK _ _ (Below.refl _ _) rfl
    · intro z v hz hag hdep
      refine .inl ⟨rfl, fun K hK => ?_⟩
      have d0 : z.tmps.getD 0 undef = .slice (some ⟨q, 0, none⟩) n cap := hag.2.2 0 (by kernel_rfl)
      have e0 := d0
      rw [Array.getD_eq_getD_getElem?] at e0
      clear hz
      clear hdep hag 
      go_simp
      exact hK _ _ (Below.refl _ _) rfl
    · intro z v hz hag hdep
      refine .inl ⟨rfl, fun K hK => ?_⟩
      have d2 : z.tmps.getD 2 undef = .int .i64 (j : Int) := hag.2.2 2 (by kernel_rfl)
      have e2 := d2
      rw [Array.getD_eq_getD_getElem?] at e2
      clear hz
      clear hdep hag 
      go_simp
      exact hK _ _ (Below.refl _ _) rfl
    · intro z v hz hag hdep
      refine .inl ⟨rfl, fun K hK => ?_⟩
      have d104 : z.tmps.getD 104 undef = .slice (some ⟨q, 0, none⟩) n cap := hdep { on := 6, ground := .data } (by simp) rfl _ _ rfl rfl
      have e104 := d104
      rw [Array.getD_eq_getD_getElem?] at e104
      have d105 : z.tmps.getD 105 undef = .int .i64 (j : Int) := hdep { on := 7, ground := .data } (by simp) rfl _ _ rfl rfl
      have e105 := d105
      rw [Array.getD_eq_getD_getElem?] at e105
      clear hz
      clear hdep hag 
      go_simp
      exact hK _ _ (Below.refl _ _) rfl

  case' hdone =>
    intro z w3 hz hag hok _
    have d103 : z.tmps.getD 103 undef = .slice (some ⟨q, (i + m) * 2, none⟩) (n - j) (cap - (i + m)) := hok 5 _ 103 (by decide) rfl rfl
    have d106 : z.tmps.getD 106 undef = .slice (some ⟨q, j * 2, none⟩) (n - j) (cap - j) := hok 8 _ 106 (by decide) rfl rfl
    obtain ⟨uu, hu, hzz⟩ := Go.Proofs.Ytgagkmlkoeceiaa.R.agree_frame [98, 99, 100, 101, 102, 103, 104, 105, 106, 107] rfl hag
    have e103 := (hu 103).trans d103
    have e106 := (hu 106).trans d106
    subst hzz
    have HZ := Lib.hid hz
    clear hz
    simp only [List.foldl_cons, List.foldl_nil]
    rw [e103, e106]
    clear e103 d103 e106 d106 hu hag hok
    try dsimp only [Exit.then]
    try dsimp only [List.drop]
    simp only [List.setIfInBounds_toArray, List.set_cons_succ, List.set_cons_zero]
    generalize uu 98 = u98', uu 99 = u99', uu 100 = u100', uu 101 = u101', uu 102 = u102', uu 104 = u104', uu 105 = u105', uu 107 = u107'
    clear uu
  have HW3 := HZ
  obtain ⟨hCl, hCt, hn, hcm, hml, hti, hdj, hV, hsp, hlen, hap⟩ := HF.out
  obtain ⟨hC2, hk2, hl2, ht2, hd2⟩ := H2.out
  have hC3 : RowC q C2 w3 := (HW3.out.block q (Array.getElem?_eq_some_iff.1 hC2).1).trans hC2
  have hsrc : (C2.drop (j * 2)).take ((l.drop j).length * 2) = flatP .i64 (l.drop j) := by
    have e1 : C2.drop (j * 2) = C.drop (j * 2) := by
      have e2 : ∀ D : List Value, D.drop (j * 2) = (D.drop ((i + m) * 2)).drop ((j - (i + m)) * 2) := fun D => by rw [List.drop_drop]; congr 1; clear hs4 hs1 hs2 hs3 hsum hRi; omega
      rw [e2 C2, e2 C, hd2]
    rw [e1]
    exact drop_cells hn (by rw [hn]; exact hCt) j
  have q3 : n - j ≤ cap - j := by clear hs4 hs1 hs2 hs3 hsum hRi; omega
  have q4 : i + m + (n - j) ≤ cap := by clear hs4 hs1 hs2 hs3 hsum hRi; omega
  have hP3 : PairsIn .i64 (some ⟨q, j * 2, none⟩) (l.drop j).length (cap - j) (l.drop j) w3 := hC3.pairs j hsrc _ (by rw [hdj]; exact q3) (by unfold maxLen at hcm; clear hs4 hs1 hs2 hs3 hsum hRi; omega)
  obtain ⟨C4, w4, hr4, hC4, hk4, hl4, ht4, -⟩ := copy_put (A := l.take i ++ vs) (B := l.drop j) (i := i + m) hC3 hl2 ht2 (by rw [List.length_append, hti, ← hml]) (by rw [hdj]; exact q4) (n - j) (by rw [hdj]; exact Nat.le_refl _) (some ⟨q, j * 2, none⟩) (cap - j) hP3 (by rintro x ⟨⟩; rfl)
  rw [hdj] at hr4 ht4
  have e4 := fun dc => hr4 3 dc
  -- what is cleared
  obtain ⟨O, hO⟩ : ∃ O : Nat, (if cap = i + m + (n - j) then 0 else (i + m + (n - j)) * 2) = O := ⟨_, rfl⟩
  have q6 : O + (n - (i + m + (n - j))) * 2 ≤ C4.length ∧ (i + m + (n - j) < n → O = (i + m + (n - j)) * 2) := by
    rw [hl4, ← hO]
    clear hs4 hs1 hs2 hs3 hsum hRi
    split <;> omega
  obtain ⟨w5, hr5, hk5, Z, hZ, hC5⟩ := clearC hC4 0 O (n - (i + m + (n - j))) (cap - (i + m + (n - j))) q6.1
  have hAd : (if cap = i + m + (n - j) then (some ⟨q, 0, none⟩ : Option Addr) else some ⟨q, (i + m + (n - j)) * 2, none⟩) = some ⟨q, O, none⟩ := by rw [← hO]; split <;> rfl
  have HE : Hid (P (.returned (.slice (some ⟨q, 0, none⟩) (i + m + (n - j)) cap)) w5) := Lib.hid (by
    rw [← HP.out]
    refine ⟨_, rfl, ?_, (((KeepB.of_below HB1.out).trans hk2).trans (KeepB.of_below HW3.out)).trans (hk4.trans hk5), fun p hp => .inl hp⟩
    have := hC5.own (cap := cap) (l := l.take i ++ vs ++ l.drop j) (by simp only [List.length_append, List.length_take, List.length_drop, hZ, hl4]; have := q6.1; rw [hl4] at this; clear hs4 hs1 hs2 hs3 hsum hRi; omega) (by
      rw [hlen]
      by_cases hz : i + m + (n - j) < n
      · rw [q6.2 hz, List.append_assoc, List.take_append_of_le_length (by rw [List.length_take, hl4]; clear hs4 hs1 hs2 hs3 hsum hRi; omega), List.take_take, Nat.min_self, ht4]
      · have hz0 : n - (i + m + (n - j)) = 0 := by clear hs4 hs1 hs2 hs3 hsum hRi; omega
        rw [hz0] at hZ
        rw [hz0, List.eq_nil_of_length_eq_zero hZ, List.append_nil, Nat.zero_mul, Nat.add_zero, List.take_append_drop, ht4]) (by rw [hlen]; exact q4) hcm
    rw [hlen] at this
    exact this)
  clear hCl hCt hn hcm hml hti hdj hV hsp hlen hap hC2 hk2 hl2 ht2 hd2 hC3 hsrc hP3 hr4 hC4 hk4 hl4 ht4 q3 q4 q6 hk5 hZ hC5
  go_wp2_with fail
  all_goals first | exact HE.out | (have hh : cap = i + m + (n - j) := by assumption
                                    have h := HE.out
                                    rw [← hh] at h ⊢
                                    exact h)
def R13Ok (q G n cap cp i j m c2 : Nat) (a2 : Option Addr) : Nat → Value → World → Prop
  | 0, u, _ => u = .slice (some ⟨G, 0, none⟩) (i + m + (n - j)) cp
  | 1, u, _ => u = .int .i64 (i : Int)
  | 2, u, _ => u = .slice a2 m c2
  | 3, u, _ => u = .int .i64 (m : Int)
  | 4, u, _ => u = .int .i64 ((i : Int) + (m : Int))
  | 5, u, _ => u = .slice (some ⟨G, (i + m) * 2, none⟩) (n - j) (cp - (i + m))
  | 6, u, _ => u = .slice (some ⟨q, 0, none⟩) n cap
  | 7, u, _ => u = .int .i64 (j : Int)
  | 8, u, _ => u = .slice (some ⟨q, j * 2, none⟩) (n - j) (cap - j)
  | _, _, _ => True
set_option maxRecDepth 100000 in
set_option maxHeartbeats 8000000 in
theorem replace_grow (q n cap i j m c2 : Nat) (a2 : Option Addr) (l vs : List Sp) (w : World) (hown : OwnP .i64 81 0 (.slice (some ⟨q, 0, none⟩) n cap) l w) (hij : i < j) (hjn : j < n) (hr : cap < i + m + (n - j)) (hl : n + m ≤ 1000000) (hV : PairsIn .i64 a2 m c2 vs w) (hsp : ∀ x, a2 = some x → x = ⟨x.block, x.off, none⟩) (hap : ∀ x, a2 = some x → x.block ≠ q) :
    Calls Try.prog 40 #[.slice (some ⟨q, 0, none⟩) n cap, .int .i64 (i : Int), .int .i64 (j : Int), .slice a2 m c2] w (RepPost (.slice (some ⟨q, 0, none⟩) n cap) (l.take i ++ vs ++ l.drop j) w) := by
  obtain ⟨P, hP⟩ : ∃ P, RepPost (.slice (some ⟨q, 0, none⟩) n cap) (l.take i ++ vs ++ l.drop j) w = P := ⟨_, rfl⟩
  rw [hP]
  have HP := Lib.hid hP
  obtain ⟨C, hC, hCl, hCt, hn, hnc, hcm, -⟩ := hown.rowC
  have hml := hV.len
  have hti : (l.take i).length = i := by rw [List.length_take]; omega
  have hdj : (l.drop j).length = n - j := by rw [List.length_drop, hn]
  have hlen : (l.take i ++ vs ++ l.drop j).length = i + m + (n - j) := by rw [List.length_append, List.length_append, hti, hdj, hml]
  have hjc : j ≤ cap := by omega
  have hic : i ≤ cap := by omega
  have hci : ¬ (cap = i) := by omega
  have hii : (i : Int) ≤ (j : Int) := by omega
  have hne : ¬ ((i : Int) = (j : Int)) := by omega
  have hin : (i : Int) ≤ (n : Int) := by omega
  have hjc2 : ¬ (cap = j) := by omega
  have hnj : ¬ ((j : Int) = (n : Int)) := by omega
  have hjn3 : (j : Int) ≤ (n : Int) := by omega
  have hs1 : IntKind.i64.wrap ((i : Int) + (m : Int)) = (i : Int) + (m : Int) := by rw [IntKind.wrap_i64]; omega
  have hs0 : (0 : Int) ≤ (i : Int) + (m : Int) := by omega
  have hs5 : (i : Int) + (m : Int) ≤ (i : Int) + (m : Int) + ((n - j : Nat) : Int) := by omega
  have hs4 : ((i : Int) + (m : Int)).toNat = i + m := by omega
  obtain ⟨R, hR⟩ : ∃ R : Nat, n - j = R := ⟨_, rfl⟩
  obtain ⟨T, hT⟩ : ∃ T : Nat, i + m + (n - j) = T := ⟨_, rfl⟩
  have hRi : (n : Int) - (j : Int) = (R : Int) := by omega
  have hsum : (i : Int) + (m : Int) + (R : Int) = (T : Int) := by omega
  have hs2 : IntKind.i64.wrap ((i : Int) + (m : Int) + (R : Int)) = (T : Int) := by rw [IntKind.wrap_i64]; omega
  have hs3 : (0 : Int) ≤ (i : Int) + (m : Int) + (R : Int) := by omega
  have HRT := Lib.hid (And.intro hR hT)
  have hgt : (cap : Int) < (i : Int) + (m : Int) + ((n - j : Nat) : Int) := by omega
  clear hR hT
  have HC := Lib.hid hC
  have HO := Lib.hid hown
  have HF := Lib.hid (And.intro hCl (And.intro hCt (And.intro hn (And.intro hcm (And.intro hml (And.intro hti (And.intro hdj (And.intro hV (And.intro hsp (And.intro hlen hap))))))))))
  have hnc2 : n ≤ cap := hnc
  clear hP hown hC hCl hCt hn hnc hcm hml hti hdj hlen hV hsp hap
  go_enter Try.func40, Try.ntmps40
  go_upto_region 9 with fail
  refine wp_region_quiet_below (by kernel_rfl) (by kernel_rfl) ?_
  repeat (go_big_quiet_step (fail))
  refine wpQuiet_nil ?_
  intro _ hw'
  obtain ⟨⟨dq, osq⟩, hw''⟩ := hw'
  have HB1 : Hid (Below w.heap.size w (Go.Sort.grow (redrawn w dq) osq)) := Lib.hid (below_regrown _ _ _)
  rw [hw'']
  simp only
  generalize Go.Sort.grow (redrawn w dq) osq = w1 at HB1 ⊢
  clear hw''
  obtain ⟨hCl, hCt, hn, hcm, hml, hti, hdj, hV, hsp, hlen, hap⟩ := HF.out
  have hO1 := HO.out.belowAll HB1.out
  have hq1 := (Array.getElem?_eq_some_iff.1 HC.out).1
  have hC1 : RowC q C w1 := (HB1.out.block q hq1).trans HC.out
  have hV1 := hV.belowAll HB1.out
  rw [hml] at hV1
  obtain ⟨cp, C2, w2, hr2, hC2, hCl2, hCt2, hcp, hcpm, hb2⟩ := growZ (i := i) (k := i + m + (n - j) - i) hO1 (by clear hs4 hs1 hs2 hs3 hs5 hsum hRi; omega) (by clear hs4 hs1 hs2 hs3 hs5 hsum hRi; omega) (by clear hs4 hs1 hs2 hs3 hs5 hsum hRi; omega) (by clear hs4 hs1 hs2 hs3 hs5 hsum hRi; omega)
  have hik : i + (i + m + (n - j) - i) = i + m + (n - j) := by clear hs4 hs1 hs2 hs3 hs5 hsum hRi; omega
  have hkk : ((i + m + (n - j) - i : Nat) : Int) = (i : Int) + (m : Int) + ((n - j : Nat) : Int) - (i : Int) := by clear hs4 hs1 hs2 hs3 hs5 hsum hRi; omega
  rw [hik, hkk] at hr2
  rw [hik] at hcp
  have hs1' := HB1.out.size
  have hg2 := (Array.getElem?_eq_some_iff.1 hC2).1
  obtain ⟨G, hG⟩ : ∃ G, w1.heap.size = G := ⟨_, rfl⟩
  rw [hG] at hr2 hC2 hg2
  have hqG : q ≠ G := by clear hs4 hs1 hs2 hs3 hs5 hsum hRi; omega
  have q1 : i + vs.length ≤ cp := by rw [← hml]; clear hs4 hs1 hs2 hs3 hs5 hsum hRi; omega
  have q2 : vs.length ≤ i + m + (n - j) - i := by rw [← hml]; clear hs4 hs1 hs2 hs3 hs5 hsum hRi; omega
  obtain ⟨C3, w3, hr3, hC3, hk3, hl3, ht3, -⟩ := copy_put hC2 hCl2 hCt2 hti q1 (i + m + (n - j) - i) q2 a2 c2 (hV1.belowAll hb2) hsp
  rw [← hml] at hr3 ht3
  have e3 := fun dc => hr3 3 dc
  have HR2 := Lib.hid hr2
  have hCq : RowC q C w3 := (hk3.block q (by clear hs4 hs1 hs2 hs3 hs5 hsum hRi; omega) (by simpa using hqG)).trans ((hb2.block q (by clear hs4 hs1 hs2 hs3 hs5 hsum hRi; omega)).trans hC1)
  have hGw : w.heap.size ≤ G := by clear hs4 hs1 hs2 hs3 hs5 hsum hRi; omega
  have H3 := Lib.hid (And.intro hC3 (And.intro hCq (And.intro (((KeepB.of_below HB1.out).trans (KeepB.of_below hb2)).trans hk3) (And.intro hl3 (And.intro ht3 (And.intro hcpm hqG))))))
  have hcp1 : ¬ (cp = i) := by clear hs4 hs1 hs2 hs3 hs5 hsum hRi; omega
  have hcp2 : ¬ (cp = i + m) := by clear hs4 hs1 hs2 hs3 hs5 hsum hRi; omega
  have hiT : (i : Int) ≤ (i : Int) + (m : Int) + ((n - j : Nat) : Int) := by clear hs4 hs1 hs2 hs3 hs5 hsum hRi; omega
  have hs6 : IntKind.i64.wrap ((i : Int) + (m : Int) + ((n - j : Nat) : Int) - (i : Int)) = (i : Int) + (m : Int) + ((n - j : Nat) : Int) - (i : Int) := by rw [IntKind.wrap_i64]; clear hs4 hs1 hs2 hs3 hs5 hsum hRi; omega
  have hs7 : IntKind.i64.wrap ((i : Int) + (m : Int) + ((n - j : Nat) : Int)) = (i : Int) + (m : Int) + ((n - j : Nat) : Int) := by rw [IntKind.wrap_i64]; clear hs4 hs1 hs2 hs3 hs5 hsum hRi; omega
  clear hCl hCt hn hcm hml hti hdj hV hsp hlen hap hO1 hC1 hV1 hr2 hC2 hCl2 hCt2 hcpm hb2 hik hkk hs1' hg2 hG q1 q2 hr3 hC3 hk3 hl3 ht3 hCq hq1 hqG
  go_wp2_with (at_builtin; refine wpList_append_run rfl _ _ _ _ rfl _ _ rfl rfl (HR2.out _) ?_)
  clear e3 HR2
  refine Go.Proofs.Ytgagkmlkoeceiaa.R.wp_region_tailT 9 (by kernel_rfl) (fun u => Below w3.heap.size w3 u) (fun u v => Below u.heap.size u v) (R13Ok q G n cap cp i j m c2 a2) (by rfl) (by kernel_rfl) (by decide) (by kernel_rfl) (by kernel_rfl) (by kernel_rfl) ?hC ?hOk ?hop ?hdone ((Below.refl _ _).drew)
  case hC => exact fun u v h1 h2 => h1.trans (h2.mono h1.size)
  case hOk =>
    intro i u w1 w2 h hr
    unfold R13Ok at h ⊢
    split <;> first | exact True.intro | exact h
  case hop =>
    refine ⟨?_, ?_, ?_, ?_, ?_, ?_, ?_, ?_, ?_, trivial⟩
    · intro z v hz hag hdep
      refine .inl ⟨rfl, fun K hK => ?_⟩
      have d11 : z.tmps.getD 11 undef = .slice (some ⟨G, 0, none⟩) (i + m + (n - j)) cp := hag.2.2 11 (by kernel_rfl)
      have e11 := d11
      rw [Array.getD_eq_getD_getElem?] at e11
      clear hz
      clear hdep hag 
      go_simp
      exact hK _ _ (Below.refl _ _) rfl
    · intro z v hz hag hdep
      refine .inl ⟨rfl, fun K hK => ?_⟩
      have d1 : z.tmps.getD 1 undef = .int .i64 (i : Int) := hag.2.2 1 (by kernel_rfl)
      have e1 := d1
      rw [Array.getD_eq_getD_getElem?] at e1
      clear hz
      clear hdep hag 
      go_simp
      exact hK _ _ (Below.refl _ _) rfl
    · intro z v hz hag hdep
      refine .inl ⟨rfl, fun K hK => ?_⟩
      have d3 : z.tmps.getD 3 undef = .slice a2 m c2 := hag.2.2 3 (by kernel_rfl)
      have e3 := d3
      rw [Array.getD_eq_getD_getElem?] at e3
      clear hz
      clear hdep hag 
      go_simp
      exact hK _ _ (Below.refl _ _) rfl
    · intro z v hz hag hdep
      refine .inl ⟨rfl, fun K hK => ?_⟩
      have d75 : z.tmps.getD 75 undef = .slice a2 m c2 := hdep { on := 2, ground := .data } (by simp) rfl _ _ rfl rfl
      have e75 := d75
      rw [Array.getD_eq_getD_getElem?] at e75
      clear hz
      clear hdep hag 
      go_simp
      exact hK _ _ (Below.refl _ _) rfl
    · intro z v hz hag hdep
      refine .inl ⟨rfl, fun K hK => ?_⟩
      have d74 : z.tmps.getD 74 undef = .int .i64 (i : Int) := hdep { on := 1, ground := .data } (by simp) rfl _ _ rfl rfl
      have e74 := d74
      rw [Array.getD_eq_getD_getElem?] at e74
      have d76 : z.tmps.getD 76 undef = .int .i64 (m : Int) := hdep { on := 3, ground := .data } (by simp) rfl _ _ rfl rfl
      have e76 := d76
      rw [Array.getD_eq_getD_getElem?] at e76
      clear hz
      clear hdep hag 
      go_simp
      exact hK _ _ (Below.refl _ _) rfl
    · intro z v hz hag hdep
      refine .inl ⟨rfl, fun K hK => ?_⟩
      have d73 : z.tmps.getD 73 undef = .slice (some ⟨G, 0, none⟩) (i + m + (n - j)) cp := hdep { on := 0, ground := .data } (by simp) rfl _ _ rfl rfl
      have e73 := d73
      rw [Array.getD_eq_getD_getElem?] at e73
      have d77 : z.tmps.getD 77 undef = .int .i64 ((i : Int) + (m : Int)) := hdep { on := 4, ground := .data } (by simp) rfl _ _ rfl rfl
      have e77 := d77
      rw [Array.getD_eq_getD_getElem?] at e77
      clear hz
      clear hdep hag 
      go_simp
      exact hK _ _ (Below.refl _ _) rfl
    · intro z v hz hag hdep
      refine .inl ⟨rfl, fun K hK => ?_⟩
      have d0 : z.tmps.getD 0 undef = .slice (some ⟨q, 0, none⟩) n cap := hag.2.2 0 (by kernel_rfl)
      have e0 := d0
      rw [Array.getD_eq_getD_getElem?] at e0
      clear hz
      clear hdep hag 
      go_simp
      exact hK _ _ (Below.refl _ _) rfl
    · intro z v hz hag hdep
      refine .inl ⟨rfl, fun K hK => ?_⟩
      have d2 : z.tmps.getD 2 undef = .int .i64 (j : Int) := hag.2.2 2 (by kernel_rfl)
      have e2 := d2
      rw [Array.getD_eq_getD_getElem?] at e2
      clear hz
      clear hdep hag 
      go_simp
      exact hK _ _ (Below.refl _ _) rfl
    · intro z v hz hag hdep
      refine .inl ⟨rfl, fun K hK => ?_⟩
      have d79 : z.tmps.getD 79 undef = .slice (some ⟨q, 0, none⟩) n cap := hdep { on := 6, ground := .data } (by simp) rfl _ _ rfl rfl
      have e79 := d79
      rw [Array.getD_eq_getD_getElem?] at e79
      have d80 : z.tmps.getD 80 undef = .int .i64 (j : Int) := hdep { on := 7, ground := .data } (by simp) rfl _ _ rfl rfl
      have e80 := d80
      rw [Array.getD_eq_getD_getElem?] at e80
      clear hz
      clear hdep hag 
      go_simp
      exact hK _ _ (Below.refl _ _) rfl

  case' hdone =>
    intro z w4 hz hag hok _
    have d78 : z.tmps.getD 78 undef = .slice (some ⟨G, (i + m) * 2, none⟩) (n - j) (cp - (i + m)) := hok 5 _ 78 (by decide) rfl rfl
    have d81 : z.tmps.getD 81 undef = .slice (some ⟨q, j * 2, none⟩) (n - j) (cap - j) := hok 8 _ 81 (by decide) rfl rfl
    obtain ⟨uu, hu, hzz⟩ := Go.Proofs.Ytgagkmlkoeceiaa.R.agree_frame [73, 74, 75, 76, 77, 78, 79, 80, 81, 82] rfl hag
    have e78 := (hu 78).trans d78
    have e81 := (hu 81).trans d81
    subst hzz
    have HZ := Lib.hid hz
    clear hz
    simp only [List.foldl_cons, List.foldl_nil]
    rw [e78, e81]
    clear e78 d78 e81 d81 hu hag hok
    try dsimp only [Exit.then]
    try dsimp only [List.drop]
    simp only [List.setIfInBounds_toArray, List.set_cons_succ, List.set_cons_zero]
    generalize uu 73 = u73', uu 74 = u74', uu 75 = u75', uu 76 = u76', uu 77 = u77', uu 79 = u79', uu 80 = u80', uu 82 = u82'
    clear uu
  obtain ⟨hCl, hCt, hn, hcm, hml, hti, hdj, hV, hsp, hlen, hap⟩ := HF.out
  obtain ⟨hC3, hCq, hk3, hl3, ht3, hcpm, hqG⟩ := H3.out
  have hC4 : RowC G C3 w4 := (HZ.out.block G (Array.getElem?_eq_some_iff.1 hC3).1).trans hC3
  have hCq4 : RowC q C w4 := (HZ.out.block q (Array.getElem?_eq_some_iff.1 hCq).1).trans hCq
  have q3 : n - j ≤ cap - j := by clear hs4 hs1 hs2 hs3 hs5 hsum hRi; omega
  have hP4 : PairsIn .i64 (some ⟨q, j * 2, none⟩) (l.drop j).length (cap - j) (l.drop j) w4 := hCq4.pairs j (drop_cells hn (by rw [hn]; exact hCt) j) _ (by rw [hdj]; exact q3) (by unfold maxLen at hcm; clear hs4 hs1 hs2 hs3 hs5 hsum hRi; omega)
  obtain ⟨C5, w5, hr5, hC5, hk5, hl5, ht5, -⟩ := copy_put (A := l.take i ++ vs) (B := l.drop j) (i := i + m) hC4 hl3 ht3 (by rw [List.length_append, hti, ← hml]) (by rw [hdj]; exact hcp) (n - j) (by rw [hdj]; exact Nat.le_refl _) (some ⟨q, j * 2, none⟩) (cap - j) hP4 (by rintro x ⟨⟩; rfl)
  rw [hdj] at hr5 ht5
  have e5 := fun dc => hr5 3 dc
  have HE : Hid (P (.returned (.slice (some ⟨G, 0, none⟩) (i + m + (n - j)) cp)) w5) := Lib.hid (by
    rw [← HP.out]
    refine ⟨_, rfl, ?_, (KeepB.strike ((hk3.trans (KeepB.of_below HZ.out)).trans hk5) hGw).mono (fun x hx => by cases hx), fun p hp => .inr ?_⟩
    · have := hC5.own (cap := cp) (l := l.take i ++ vs ++ l.drop j) hl5 (by rw [hlen]; exact ht5) (by rw [hlen]; exact hcp) hcpm
      rw [hlen] at this
      exact this
    · have : p = G := by simpa [Value.ownBlock] using hp.symm
      rw [this]; exact hGw)
  clear hCl hCt hn hcm hml hti hdj hV hsp hlen hap hC3 hCq hk3 hl3 ht3 hcpm hqG hC4 hCq4 q3 hP4 hr5 hC5 hk5 hl5 ht5
  go_wp2_with fail
  exact HE.out
def R22Ok (q n cap i j m c2 : Nat) (a2 : Option Addr) : Nat → Value → World → Prop
  | 0, u, _ => u = .slice (some ⟨q, 0, none⟩) (i + m + (n - j)) cap
  | 1, u, _ => u = .int .i64 (i : Int)
  | 2, u, _ => u = .slice a2 m c2
  | 3, u, _ => u = .int .i64 (m : Int)
  | 4, u, _ => u = .int .i64 ((i : Int) + (m : Int))
  | 5, u, _ => u = .slice (some ⟨q, (i + m) * 2, none⟩) (n - j) (cap - (i + m))
  | 6, u, _ => u = .slice (some ⟨q, 0, none⟩) n cap
  | 7, u, _ => u = .int .i64 (j : Int)
  | 8, u, _ => u = .slice (some ⟨q, j * 2, none⟩) (n - j) (cap - j)
  | _, _, _ => True
/-- the cells when the end has gone up, and others stand in its place -/
theorem shift_cells2 {C : List Value} {l vs : List Sp} {n m i j cap : Nat} (hn : n = l.length) (hm : m = vs.length) (hi : i ≤ n) (hj : j ≤ n) (hr : i + m + (n - j) ≤ cap) (hl : C.length = cap * 2) (ht : C.take (n * 2) = flatP .i64 l) :
    let C1 := C.take ((i + m) * 2) ++ flatP .i64 (l.drop j) ++ C.drop ((i + m) * 2 + (flatP .i64 (l.drop j)).length)
    let C2 := C1.take (i * 2) ++ flatP .i64 vs ++ C1.drop (i * 2 + (flatP .i64 vs).length)
    C1.length = cap * 2 ∧ C2.length = cap * 2 ∧ C2.take ((i + m + (n - j)) * 2) = flatP .i64 (l.take i ++ vs ++ l.drop j) := by
  intro C1 C2
  have hdl : (flatP .i64 (l.drop j)).length = (n - j) * 2 := by rw [flatP_len, List.length_drop, hn]
  have hvl : (flatP .i64 vs).length = m * 2 := by rw [flatP_len, hm]
  have h1 : C1.length = cap * 2 := by
    simp only [C1, List.length_append, List.length_take, List.length_drop, hl, hdl]; omega
  have h2 : C2.length = cap * 2 := by
    simp only [C2, List.length_append, List.length_take, List.length_drop, h1, hvl]; omega
  refine ⟨h1, h2, ?_⟩
  have e1 : C1.take (i * 2) = flatP .i64 (l.take i) := by
    simp only [C1]
    rw [List.append_assoc, List.take_append_of_le_length (by rw [List.length_take]; omega), List.take_take, Nat.min_eq_left (by omega), flatP_takeD, ← ht, List.take_take, Nat.min_eq_left (by omega)]
  have e2 : C1.drop (i * 2 + (flatP .i64 vs).length) = flatP .i64 (l.drop j) ++ C.drop ((i + m) * 2 + (flatP .i64 (l.drop j)).length) := by
    simp only [C1]
    rw [hvl, show i * 2 + m * 2 = (i + m) * 2 by omega, List.append_assoc]
    exact List.drop_left' (by rw [List.length_take]; omega)
  simp only [C2]
  rw [e1, e2, flatP_append, flatP_append, ← List.append_assoc]
  refine List.take_left' ?_
  rw [List.length_append, List.length_append, flatP_len, flatP_len, flatP_len, List.length_take, List.length_drop, ← hm, ← hn]
  omega
set_option maxRecDepth 100000 in
set_option maxHeartbeats 8000000 in
theorem replace_shift (q n cap i j m c2 : Nat) (a2 : Option Addr) (l vs : List Sp) (w : World) (hown : OwnP .i64 81 0 (.slice (some ⟨q, 0, none⟩) n cap) l w) (hij : i < j) (hjn : j < n) (hr : i + m + (n - j) ≤ cap) (hm : j < i + m) (hl : n + m ≤ 1000000) (hV : PairsIn .i64 a2 m c2 vs w) (hsp : ∀ x, a2 = some x → x = ⟨x.block, x.off, none⟩) (g : Nat) (D : List Value) (ha2 : a2 = some ⟨g, 0, none⟩) (hg : RowC g D w) (hD : D ≠ []) (hap : g ≠ q) :
    Calls Try.prog 40 #[.slice (some ⟨q, 0, none⟩) n cap, .int .i64 (i : Int), .int .i64 (j : Int), .slice a2 m c2] w (RepPost (.slice (some ⟨q, 0, none⟩) n cap) (l.take i ++ vs ++ l.drop j) w) := by
  obtain ⟨P, hP⟩ : ∃ P, RepPost (.slice (some ⟨q, 0, none⟩) n cap) (l.take i ++ vs ++ l.drop j) w = P := ⟨_, rfl⟩
  rw [hP]
  have HP := Lib.hid hP
  obtain ⟨C, hC, hCl, hCt, hn, hnc, hcm, -⟩ := hown.rowC
  have hml := hV.len
  have hti : (l.take i).length = i := by rw [List.length_take]; omega
  have hdj : (l.drop j).length = n - j := by rw [List.length_drop, hn]
  have hlen : (l.take i ++ vs ++ l.drop j).length = i + m + (n - j) := by rw [List.length_append, List.length_append, hti, hdj, hml]
  have hjc : j ≤ cap := by omega
  have hic : i ≤ cap := by omega
  have hci : ¬ (cap = i) := by omega
  have hii : (i : Int) ≤ (j : Int) := by omega
  have hne : ¬ ((i : Int) = (j : Int)) := by omega
  have hin : (i : Int) ≤ (n : Int) := by omega
  have hjc2 : ¬ (cap = j) := by omega
  have hnj : ¬ ((j : Int) = (n : Int)) := by omega
  have hjn3 : (j : Int) ≤ (n : Int) := by omega
  have hs1 : IntKind.i64.wrap ((i : Int) + (m : Int)) = (i : Int) + (m : Int) := by rw [IntKind.wrap_i64]; omega
  have hs0 : (0 : Int) ≤ (i : Int) + (m : Int) := by omega
  have hs5 : (i : Int) + (m : Int) ≤ (i : Int) + (m : Int) + ((n - j : Nat) : Int) := by omega
  have hs4 : ((i : Int) + (m : Int)).toNat = i + m := by omega
  obtain ⟨R, hR⟩ : ∃ R : Nat, n - j = R := ⟨_, rfl⟩
  obtain ⟨T, hT⟩ : ∃ T : Nat, i + m + (n - j) = T := ⟨_, rfl⟩
  have hRi : (n : Int) - (j : Int) = (R : Int) := by omega
  have hsum : (i : Int) + (m : Int) + (R : Int) = (T : Int) := by omega
  have hs2 : IntKind.i64.wrap ((i : Int) + (m : Int) + (R : Int)) = (T : Int) := by rw [IntKind.wrap_i64]; omega
  have hs3 : (0 : Int) ≤ (i : Int) + (m : Int) + (R : Int) := by omega
  subst ha2
  have hgt : ¬ ((cap : Int) < (i : Int) + (m : Int) + ((n - j : Nat) : Int)) := by omega
  have hrc : (i : Int) + (m : Int) + ((n - j : Nat) : Int) ≤ (cap : Int) := by omega
  clear hR hT
  have HC := Lib.hid hC
  have HG := Lib.hid hg
  have HF := Lib.hid (And.intro hCl (And.intro hCt (And.intro hn (And.intro hcm (And.intro hml (And.intro hdj (And.intro hV (And.intro hlen (And.intro hap hD)))))))))
  have hnc2 : n ≤ cap := hnc
  have hijm : ¬ ((i : Int) + (m : Int) ≤ (j : Int)) := by omega
  have hcim : ¬ (cap = i + m) := by omega
  have hs6 : (0 : Int) ≤ (i : Int) + (m : Int) + ((n - j : Nat) : Int) := by omega
  have hs7 : IntKind.i64.wrap ((i : Int) + (m : Int) + ((n - j : Nat) : Int)) = (i : Int) + (m : Int) + ((n - j : Nat) : Int) := by rw [IntKind.wrap_i64]; omega
  have hiT : (i : Int) ≤ (i : Int) + (m : Int) + ((n - j : Nat) : Int) := by omega
  clear hP hown hC hCl hCt hn hnc hcm hml hti hdj hlen hV hsp hap hg hD
  go_enter Try.func40, Try.ntmps40
  go_upto_region 9 with fail
  refine wp_region_quiet_below (by kernel_rfl) (by kernel_rfl) ?_
  repeat (go_big_quiet_step (fail))
  refine wpQuiet_nil ?_
  intro _ hw'
  obtain ⟨⟨dq, osq⟩, hw''⟩ := hw'
  have HB1 : Hid (Below w.heap.size w (Go.Sort.grow (redrawn w dq) osq)) := Lib.hid (below_regrown _ _ _)
  rw [hw'']
  simp only
  generalize Go.Sort.grow (redrawn w dq) osq = w1 at HB1 ⊢
  clear hw''
  obtain ⟨hCl, hCt, hn, hcm, hml, hdj, hV, hlen, hap, hD⟩ := HF.out
  have hC1 : RowC q C w1 := (HB1.out.block q (Array.getElem?_eq_some_iff.1 HC.out).1).trans HC.out
  have hG1 : RowC g D w1 := (HB1.out.block g (Array.getElem?_eq_some_iff.1 HG.out).1).trans HG.out
  have hov : ∀ o1 la ca, (callFunc 58 #[.slice (some ⟨q, o1, none⟩) la ca, .slice (some ⟨g, 0, none⟩) m c2]).run Try.prog w1 = .ok (.value (.bool false)) w1 := fun o1 la ca => overlaps_apart hC1 hG1 hap hD o1 0 la ca m c2
  have HS1 := Lib.hid (And.intro hC1 hG1)
  clear hCl hCt hn hcm hml hdj hV hlen hap hD hC1 hG1
  go_wp2_with (simp only [hov])
  clear hov
  refine Go.Proofs.Ytgagkmlkoeceiaa.R.wp_region_tailT 9 (by kernel_rfl) (fun u => Below w1.heap.size w1 u) (fun u v => Below u.heap.size u v) (R22Ok q n cap i j m c2 (some ⟨g, 0, none⟩)) (by rfl) (by kernel_rfl) (by decide) (by kernel_rfl) (by kernel_rfl) (by kernel_rfl) ?hC ?hOk ?hop ?hdone ((Below.refl _ _).drew)
  case hC => exact fun u v h1 h2 => h1.trans (h2.mono h1.size)
  case hOk =>
    intro i u w1 w2 h hr
    unfold R22Ok at h ⊢
    split <;> first | exact True.intro | exact h
  case hop =>
    refine ⟨?_, ?_, ?_, ?_, ?_, ?_, ?_, ?_, ?_, trivial⟩
    · intro z v hz hag hdep
      refine .inl ⟨rfl, fun K hK => ?_⟩
      have d12 : z.tmps.getD 12 undef = .slice (some ⟨q, 0, none⟩) (i + m + (n - j)) cap := hag.2.2 12 (by kernel_rfl)
      have e12 := d12
      rw [Array.getD_eq_getD_getElem?] at e12
      clear hz
      clear hdep hag 
      go_simp
      exact hK _ _ (Below.refl _ _) rfl
    · intro z v hz hag hdep
      refine .inl ⟨rfl, fun K hK => ?_⟩
      have d1 : z.tmps.getD 1 undef = .int .i64 (i : Int) := hag.2.2 1 (by kernel_rfl)
      have e1 := d1
      rw [Array.getD_eq_getD_getElem?] at e1
      clear hz
      clear hdep hag 
      go_simp
      exact hK _ _ (Below.refl _ _) rfl
    · intro z v hz hag hdep
      refine .inl ⟨rfl, fun K hK => ?_⟩
      have d3 : z.tmps.getD 3 undef = .slice (some ⟨g, 0, none⟩) m c2 := hag.2.2 3 (by kernel_rfl)
      have e3 := d3
      rw [Array.getD_eq_getD_getElem?] at e3
      clear hz
      clear hdep hag 
      go_simp
      exact hK _ _ (Below.refl _ _) rfl
    · intro z v hz hag hdep
      refine .inl ⟨rfl, fun K hK => ?_⟩
      have d123 : z.tmps.getD 123 undef = .slice (some ⟨g, 0, none⟩) m c2 := hdep { on := 2, ground := .data } (by simp) rfl _ _ rfl rfl
      have e123 := d123
      rw [Array.getD_eq_getD_getElem?] at e123
      clear hz
      clear hdep hag 
      go_simp
      exact hK _ _ (Below.refl _ _) rfl
    · intro z v hz hag hdep
      refine .inl ⟨rfl, fun K hK => ?_⟩
      have d122 : z.tmps.getD 122 undef = .int .i64 (i : Int) := hdep { on := 1, ground := .data } (by simp) rfl _ _ rfl rfl
      have e122 := d122
      rw [Array.getD_eq_getD_getElem?] at e122
      have d124 : z.tmps.getD 124 undef = .int .i64 (m : Int) := hdep { on := 3, ground := .data } (by simp) rfl _ _ rfl rfl
      have e124 := d124
      rw [Array.getD_eq_getD_getElem?] at e124
      clear hz
      clear hdep hag 
      go_simp
      exact hK _ _ (Below.refl _ _) rfl
    · intro z v hz hag hdep
      refine .inl ⟨rfl, fun K hK => ?_⟩
      have d121 : z.tmps.getD 121 undef = .slice (some ⟨q, 0, none⟩) (i + m + (n - j)) cap := hdep { on := 0, ground := .data } (by simp) rfl _ _ rfl rfl
      have e121 := d121
      rw [Array.getD_eq_getD_getElem?] at e121
      have d125 : z.tmps.getD 125 undef = .int .i64 ((i : Int) + (m : Int)) := hdep { on := 4, ground := .data } (by simp) rfl _ _ rfl rfl
      have e125 := d125
      rw [Array.getD_eq_getD_getElem?] at e125
      clear hz
      clear hdep hag 
      go_simp
      exact hK _ _ (Below.refl _ _) rfl
    · intro z v hz hag hdep
      refine .inl ⟨rfl, fun K hK => ?_⟩
      have d0 : z.tmps.getD 0 undef = .slice (some ⟨q, 0, none⟩) n cap := hag.2.2 0 (by kernel_rfl)
      have e0 := d0
      rw [Array.getD_eq_getD_getElem?] at e0
      clear hz
      clear hdep hag 
      go_simp
      exact hK _ _ (Below.refl _ _) rfl
    · intro z v hz hag hdep
      refine .inl ⟨rfl, fun K hK => ?_⟩
      have d2 : z.tmps.getD 2 undef = .int .i64 (j : Int) := hag.2.2 2 (by kernel_rfl)
      have e2 := d2
      rw [Array.getD_eq_getD_getElem?] at e2
      clear hz
      clear hdep hag 
      go_simp
      exact hK _ _ (Below.refl _ _) rfl
    · intro z v hz hag hdep
      refine .inl ⟨rfl, fun K hK => ?_⟩
      have d127 : z.tmps.getD 127 undef = .slice (some ⟨q, 0, none⟩) n cap := hdep { on := 6, ground := .data } (by simp) rfl _ _ rfl rfl
      have e127 := d127
      rw [Array.getD_eq_getD_getElem?] at e127
      have d128 : z.tmps.getD 128 undef = .int .i64 (j : Int) := hdep { on := 7, ground := .data } (by simp) rfl _ _ rfl rfl
      have e128 := d128
      rw [Array.getD_eq_getD_getElem?] at e128
      clear hz
      clear hdep hag 
      go_simp
      exact hK _ _ (Below.refl _ _) rfl

  case' hdone =>
    intro z w3 hz hag hok _
    have d126 : z.tmps.getD 126 undef = .slice (some ⟨q, (i + m) * 2, none⟩) (n - j) (cap - (i + m)) := hok 5 _ 126 (by decide) rfl rfl
    have d129 : z.tmps.getD 129 undef = .slice (some ⟨q, j * 2, none⟩) (n - j) (cap - j) := hok 8 _ 129 (by decide) rfl rfl
    obtain ⟨uu, hu, hzz⟩ := Go.Proofs.Ytgagkmlkoeceiaa.R.agree_frame [121, 122, 123, 124, 125, 126, 127, 128, 129, 130] rfl hag
    have e126 := (hu 126).trans d126
    have e129 := (hu 129).trans d129
    subst hzz
    have HZ := Lib.hid hz
    clear hz
    simp only [List.foldl_cons, List.foldl_nil]
    rw [e126, e129]
    clear e126 d126 e129 d129 hu hag hok
    try dsimp only [Exit.then]
    try dsimp only [List.drop]
    simp only [List.setIfInBounds_toArray, List.set_cons_succ, List.set_cons_zero]
    generalize uu 121 = u121', uu 122 = u122', uu 123 = u123', uu 124 = u124', uu 125 = u125', uu 127 = u127', uu 128 = u128', uu 130 = u130'
    clear uu
  obtain ⟨hCl, hCt, hn, hcm, hml, hdj, hV, hlen, hap, hD⟩ := HF.out
  have hC3 : RowC q C w3 := (HZ.out.block q (Array.getElem?_eq_some_iff.1 HS1.out.1).1).trans HS1.out.1
  have hsh := shift_cells2 (C := C) (vs := vs) (cap := cap) (i := i) (j := j) hn hml (by clear hs4 hs1 hs2 hs3 hs5 hsum hRi; omega) (by clear hs4 hs1 hs2 hs3 hs5 hsum hRi; omega) hr hCl (by rw [hn]; exact hCt)
  obtain ⟨C1, hC1⟩ : ∃ C1, C1 = C.take ((i + m) * 2) ++ flatP .i64 (l.drop j) ++ C.drop ((i + m) * 2 + (flatP .i64 (l.drop j)).length) := ⟨_, rfl⟩
  obtain ⟨C2, hC2⟩ : ∃ C2, C2 = C1.take (i * 2) ++ flatP .i64 vs ++ C1.drop (i * 2 + (flatP .i64 vs).length) := ⟨_, rfl⟩
  simp only [← hC1] at hsh
  rw [← hC2] at hsh
  obtain ⟨hl1, hl2, ht2⟩ := hsh
  have hdl : (flatP .i64 (l.drop j)).length = (n - j) * 2 := by rw [flatP_len, hdj]
  have hvl : (flatP .i64 vs).length = m * 2 := by rw [flatP_len, hml]
  have hW1 : Below w.heap.size w w3 := HB1.out.trans (HZ.out.mono HB1.out.size)
  have hV3 := hV.belowAll hW1
  have e1 : ∀ dc sc, (Builtin.copy_ #[67, 67] 3 #[.slice (some ⟨q, (i + m) * 2, none⟩) (n - j) dc, .slice (some ⟨q, j * 2, none⟩) (n - j) sc]).run Try.prog w3 = .ok (goInt ((n - j : Nat))) (w3.setRow q C1.toArray) := fun dc sc => by
    have hmin : Nat.min (n - j) (n - j) = n - j := by show min _ _ = _; omega
    have h := copyC hC3 3 ((i + m) * 2) (n - j) dc ⟨q, j * 2, none⟩ (n - j) sc (flatP .i64 (l.drop j)) (by rw [hmin, hdl]) (fun k v hk => by
      refine hC3.cells (j * 2) k v ?_
      rw [flatP_dropD, ← hCt] at hk
      rw [List.getElem?_drop, List.getElem?_take] at hk
      split at hk
      · rw [List.getElem?_drop]; exact hk
      · cases hk) (by rw [hdl, hCl]; clear hs4 hs1 hs2 hs3 hs5 hsum hRi; omega) (flatP_one .i64 _)
    rw [hmin, ← hC1] at h
    exact h
  have hR1 : RowC q C1 (w3.setRow q C1.toArray) := RowC.set hC3
  have hk1 := setRow_keep w3 q C1.toArray
  have hVw : PairsIn .i64 (some ⟨g, 0, none⟩) m c2 vs (w3.setRow q C1.toArray) := hV3.blocks hk1.size (fun b off e hb => by
    injection e with e; injection e with e _
    subst e
    exact hk1.block g hb (by simpa using hap))
  have e2 : ∀ dc, (Builtin.copy_ #[67, 67] 3 #[.slice (some ⟨q, i * 2, none⟩) (i + m + (n - j) - i) dc, .slice (some ⟨g, 0, none⟩) m c2]).run Try.prog (w3.setRow q C1.toArray) = .ok (goInt (m : Nat)) ((w3.setRow q C1.toArray).setRow q C2.toArray) := fun dc => by
    have hmin : Nat.min m (i + m + (n - j) - i) = m := by show min _ _ = _; clear hs4 hs1 hs2 hs3 hs5 hsum hRi; omega
    have h := copyC hR1 3 (i * 2) (i + m + (n - j) - i) dc ⟨g, 0, none⟩ m c2 (flatP .i64 vs) (by rw [hmin, hvl]) hVw.news (by rw [hvl, hl1]; clear hs4 hs1 hs2 hs3 hs5 hsum hRi; omega) (flatP_one .i64 _)
    rw [hmin, ← hC2] at h
    exact h
  have HE : Hid (P (.returned (.slice (some ⟨q, 0, none⟩) (i + m + (n - j)) cap)) ((w3.setRow q C1.toArray).setRow q C2.toArray)) := Lib.hid (by
    rw [← HP.out]
    refine ⟨_, rfl, ?_, ((KeepB.of_below hW1).trans hk1).trans (setRow_keep _ _ _), fun p hp => .inl hp⟩
    have := (hR1.set (C' := C2)).own (cap := cap) (l := l.take i ++ vs ++ l.drop j) hl2 (by rw [hlen]; exact ht2) (by rw [hlen]; exact hr) hcm
    rw [hlen] at this
    exact this)
  clear hCl hCt hn hcm hml hdj hV hlen hap hD hC3 hC1 hC2 hl1 hl2 ht2 hdl hvl hW1 hV3 hR1 hk1 hVw
  go_wp2_with fail
  exact HE.out
set_option maxRecDepth 100000 in
set_option maxHeartbeats 4000000 in
theorem replace_same (a : Option Addr) (n cap i m c2 : Nat) (a2 : Option Addr) (v : Value) (out : List Sp) (w : World) (hi : i ≤ n) (hc : n ≤ cap)
    (hI : Calls Try.prog 57 #[.slice a n cap, .int .i64 (i : Int), .slice a2 m c2] w (RepPost v out w)) :
    Calls Try.prog 40 #[.slice a n cap, .int .i64 (i : Int), .int .i64 (i : Int), .slice a2 m c2] w (RepPost v out w) := by
  obtain ⟨P, hP⟩ : ∃ P, RepPost v out w = P := ⟨_, rfl⟩
  have HP := Lib.hid hP
  have HI := Lib.hid hI
  rw [hP]
  clear hP hI
  have hii : (i : Int) ≤ (n : Int) := by omega
  have hic : i ≤ cap := by omega
  by_cases hci : cap = i
  · subst hci
    go_enter Try.func40, Try.ntmps40
    go_wp2_with fail
    refine HI.out.mono ?_
    rintro e w1 ⟨v', rfl, h1, h2, h3⟩
    have HE : Hid (P (.returned v') w1) := Lib.hid (by rw [← HP.out]; exact ⟨v', rfl, h1, h2, h3⟩)
    clear h1 h2 h3
    go_wp2_with fail
    exact HE.out
  · go_enter Try.func40, Try.ntmps40
    go_wp2_with fail
    refine HI.out.mono ?_
    rintro e w1 ⟨v', rfl, h1, h2, h3⟩
    have HE : Hid (P (.returned v') w1) := Lib.hid (by rw [← HP.out]; exact ⟨v', rfl, h1, h2, h3⟩)
    clear h1 h2 h3
    go_wp2_with fail
    exact HE.out
/-- others in the place of some -/
theorem replace_any (a : Option Addr) (n cap i j m c2 : Nat) (a2 : Option Addr) (l vs : List Sp) (w : World) (hown : OwnP .i64 81 0 (.slice a n cap) l w) (hij : i ≤ j) (hjn : j ≤ n) (hl : n + m ≤ 1000000) (hV : PairsIn .i64 a2 m c2 vs w) (hnil : a2 = none → c2 = 0)
    (hap : m = 0 ∧ a2 = none ∨ ∃ g D, a2 = some ⟨g, 0, none⟩ ∧ RowC g D w ∧ D ≠ [] ∧ ∀ q, (Value.slice a n cap).ownBlock = some q → g ≠ q) (hend : m = 0 ∨ i < n) :
    Calls Try.prog 40 #[.slice a n cap, .int .i64 (i : Int), .int .i64 (j : Int), .slice a2 m c2] w (RepPost (.slice a n cap) (l.take i ++ vs ++ l.drop j) w) := by
  have hml := hV.len
  have hsp : ∀ x, a2 = some x → x = ⟨x.block, x.off, none⟩ := by
    rcases hap with ⟨-, h⟩ | ⟨g, D, h, -⟩
    · rintro x e; rw [h] at e; cases e
    · rintro x e; rw [h] at e; cases e; rfl
  have hsh : ∃ c, a = none ∧ n = 0 ∧ cap = 0 ∧ l = [] ∧ c = 0 ∨ ∃ q, a = some ⟨q, 0, none⟩ := by
    rcases hown.2 with ⟨e, h0⟩ | ⟨g, c, cur, e, -⟩
    · injection e with e1 e2 e3
      exact ⟨0, .inl ⟨e1, e2, e3, List.length_eq_zero_iff.1 h0, rfl⟩⟩
    · injection e with e1 e2 e3
      exact ⟨0, .inr ⟨g, e1⟩⟩
  obtain ⟨-, ⟨rfl, rfl, rfl, rfl, -⟩ | ⟨q, rfl⟩⟩ := hsh
  · -- of none
    obtain rfl : j = 0 := by omega
    obtain rfl : i = 0 := by omega
    obtain rfl : m = 0 := hend.resolve_right (by omega)
    have h0 : vs = [] := List.length_eq_zero_iff.1 hml.symm
    subst h0
    exact replace_same none 0 0 0 0 c2 a2 _ _ w (Nat.le_refl _) (Nat.le_refl _) (insert_none none 0 0 0 a2 c2 [] w hown (Nat.le_refl _) (Nat.le_refl _) (by decide))
  · obtain ⟨C, hC, hCl, hCt, hn, hnc, hcm, -⟩ := hown.rowC
    have hap' : ∀ x, a2 = some x → x.block ≠ q := by
      rcases hap with ⟨-, h⟩ | ⟨g, D, h, -, -, h2⟩
      · rintro x e; rw [h] at e; cases e
      · rintro x e; rw [h] at e; cases e; exact h2 q rfl
    rcases Nat.eq_or_lt_of_le hij with rfl | hlt
    · refine replace_same _ n cap i m c2 a2 _ _ w hjn hnc ?_
      by_cases hm : m = 0
      · subst hm
        have h0 : vs = [] := List.length_eq_zero_iff.1 hml.symm
        subst h0
        have := insert_none (some ⟨q, 0, none⟩) n cap i a2 c2 l w hown hjn hnc (by unfold maxLen at hcm; omega)
        simpa using this
      · have hi : i < n := hend.resolve_left hm
        by_cases hr : n + m ≤ cap
        · rcases hap with ⟨h, -⟩ | ⟨g, D, rfl, hg, hD, hgq⟩
          · exact absurd h hm
          · exact insert_shift q n cap i g m c2 l vs D w hown hi (by omega) hr (by omega) hg (hgq q rfl) hV
        · exact insert_grow q n cap i m c2 a2 l vs w hown hi (by omega) (by omega) (by omega) hV hsp
    · by_cases hjn2 : j = n
      · by_cases hr : i + m ≤ cap
        · exact replace_end q n cap i j m c2 a2 l vs w hown hlt hjn2 hjn hr hl hV hsp hnil
        · exact replace_endgrow q n cap i j m c2 a2 l vs w hown hlt hjn2 hjn (by omega) hl hV hsp hnil
      · have hjlt : j < n := by omega
        by_cases hr : i + m + (n - j) ≤ cap
        · by_cases hm : i + m ≤ j
          · exact replace_fit q n cap i j m c2 a2 l vs w hown hlt hjlt hm hl hV hsp hap'
          · rcases hap with ⟨h, -⟩ | ⟨g, D, h2, hg, hD, hgq⟩
            · omega
            · exact replace_shift q n cap i j m c2 a2 l vs w hown hlt hjlt hr (by omega) hl hV hsp g D h2 hg hD (hgq q rfl)
        · exact replace_grow q n cap i j m c2 a2 l vs w hown hlt hjlt (by omega) hl hV hsp hap'
end Go.Proofs.Ytgagkmlkoeceiaa.H
