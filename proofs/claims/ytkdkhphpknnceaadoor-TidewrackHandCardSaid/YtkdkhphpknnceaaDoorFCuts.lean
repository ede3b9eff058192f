/- The iterator flow.cuts hands on from where on, and up to where, each row goes. -/
import Derived.Test.YtkdkhphpknnceaaDoorFBase
import Derived.Lib.QuietBelow
import Derived.BigQuiet
namespace Go.Proofs.YtkdkhphpknnceaaDoor.F
open Go.RowKit Go.Shelf H
open W (OwnR RunesIn Rn Tab blkOf blkOf_sub blkOf_some KeepL keepL_t keepL_b fitS fitS_le fit_any grownBy_of_below)

attribute [local go_sem] Oper.semAt_some

/-- a width that may be -/
def clampW (w : Int) : Int := max 2 (min w 1000)
theorem clampW_le (w : Int) : 2 ≤ clampW w ∧ clampW w ≤ 1000 := by unfold clampW; omega
/-- what the iterator looks at: its boxes, the spans, the runes -/
def lookF (B : Nat) (a : Option Addr) (zs : List Int) : List Nat := B :: (B + 1) :: 0 :: blkOf a zs
structure LooksF (B : Nat) (a : Option Addr) (len cap : Nat) (zs : List Int) (W : Int) (w : World) : Prop where
  bl : Boxed w B 55 (.slice a len cap)
  bw : Boxed w (B + 1) 3 (.int .i64 W)
  rn : Rn a len zs w
  fit : len ≤ cap
  top : (cap : Int) ≤ 9223372036854775807
  sp : ∀ x, a = some x → x = ⟨x.block, x.off, none⟩
theorem LooksF.keep {B : Nat} {a : Option Addr} {len cap : Nat} {zs : List Int} {W : Int} {w w' : World} (h : LooksF B a len cap zs W w) (hk : KeepL (lookF B a zs) w w') : LooksF B a len cap zs W w' :=
  ⟨(hk.2 B (by simp [lookF]) h.bl.lt).trans h.bl, (hk.2 (B + 1) (by simp [lookF]) h.bw.lt).trans h.bw,
    ⟨h.rn.rs.kept hk.1 (fun b off hz e hl => hk.2 b (List.mem_cons_of_mem _ (List.mem_cons_of_mem _ (List.mem_cons_of_mem _ (blkOf_some hz e)))) hl), h.rn.tb.kept (hk.2 0 (by simp [lookF]) h.rn.tb.pos), fun b hb => Nat.lt_of_lt_of_le (h.rn.lt b hb) hk.1, h.rn.few⟩, h.fit, h.top, h.sp⟩
theorem LooksF.all {B : Nat} {a : Option Addr} {len cap : Nat} {zs : List Int} {W : Int} {w : World} (h : LooksF B a len cap zs W w) : ∀ b ∈ lookF B a zs, b < w.heap.size := by
  intro b hb
  rcases List.mem_cons.1 hb with rfl | hb
  · exact h.bl.lt
  rcases List.mem_cons.1 hb with rfl | hb
  · exact h.bw.lt
  rcases List.mem_cons.1 hb with rfl | hb
  · exact h.rn.tb.pos
  · exact h.rn.lt b hb
theorem LooksF.below {B : Nat} {a : Option Addr} {len cap : Nat} {zs : List Int} {W : Int} {w w' : World} (h : LooksF B a len cap zs W w) (hb : Below w.heap.size w w') : LooksF B a len cap zs W w' := h.keep (KeepL.of_below hb h.all)
theorem rn_from {a : Option Addr} {n c : Nat} {zs : List Int} {w : World} (h : Rn a n zs w) (hc : n ≤ c) (k : Nat) (hk : k ≤ n) (hsp : ∀ x, a = some x → x = ⟨x.block, x.off, none⟩) :
    Rn (if c = k then a else Option.map (fun x => x.add k) a) (n - k) (zs.drop k) w := by
  refine ⟨runes_from h.rs hc k hk hsp, h.tb, fun b hb => ?_, by have := h.few; rw [List.length_drop]; omega⟩
  refine h.lt b ?_
  cases a with
  | none => split at hb <;> simp [blkOf] at hb
  | some ad =>
    cases zs with
    | nil => split at hb <;> simp [blkOf] at hb
    | cons z zs =>
      have e : b = ad.block := by
        split at hb
        · cases hd : (z :: zs).drop k with
          | nil => rw [hd] at hb; simp [blkOf] at hb
          | cons y ys => rw [hd] at hb; simpa [blkOf] using hb
        · cases hd : (z :: zs).drop k with
          | nil => rw [hd] at hb; simp [blkOf] at hb
          | cons y ys =>
            rw [hd] at hb
            have h2 : b = (ad.add k).block := by simpa [blkOf] using hb
            rw [h2]
            unfold Addr.add
            split <;> rfl
      subst e
      simp [blkOf]
/-- what cuts leaves -/
def CutsPost (a : Option Addr) (len cap : Nat) (zs : List Int) (W : Int) (w : World) (e : Ending) (w' : World) : Prop :=
  e = .returned (.func (.func 30) #[] #[.pointer (some ⟨w.heap.size + 1, 0, none⟩), .pointer (some ⟨w.heap.size, 0, none⟩)]) ∧ LooksF w.heap.size a len cap zs W w' ∧ Below w.heap.size w w' ∧ w'.heap.size = w.heap.size + 2
set_option maxRecDepth 100000 in
set_option maxHeartbeats 2000000 in
theorem cuts_any (a : Option Addr) (len cap : Nat) (zs : List Int) (W : Int) (w : World) (h : Rn a len zs w) (hc : len ≤ cap) (ht : (cap : Int) ≤ 9223372036854775807) (hsp : ∀ x, a = some x → x = ⟨x.block, x.off, none⟩) :
    Calls Tryd.prog 14 #[.slice a len cap, .int .i64 W] w (CutsPost a len cap zs (clampW W) w) := by
  obtain ⟨P, hP⟩ : ∃ P, CutsPost a len cap zs (clampW W) w = P := ⟨_, rfl⟩
  rw [hP]
  have hcl : min (max W 2) 1000 = clampW W := by unfold clampW; omega
  obtain ⟨C, hC⟩ : ∃ C, clampW W = C := ⟨_, rfl⟩
  rw [hC] at hcl hP
  obtain ⟨w1, hw1⟩ : ∃ w1, (w.alloc (.cells #[.slice a len cap] 55)).alloc (.cells #[.int .i64 W] 3) = w1 := ⟨_, rfl⟩
  have hb1 : Below w.heap.size w w1 := by rw [← hw1]; exact ((Below.refl _ _).alloc (Nat.le_refl _) _).alloc (by simp) _
  have hs1 : w1.heap.size = w.heap.size + 2 := by rw [← hw1]; simp
  have bl : Boxed w1 w.heap.size 55 (.slice a len cap) := by rw [← hw1]; exact (Boxed.new w 55 _).alloc _
  have bw : Boxed w1 (w.heap.size + 1) 3 (.int .i64 W) := by
    have h := Boxed.new (w.alloc (.cells #[.slice a len cap] 55)) 3 (.int .i64 W)
    rw [World.size_alloc, hw1] at h
    exact h
  have hb2 : Below w.heap.size w (w1.setCell ⟨w.heap.size + 1, 0, none⟩ (.int .i64 C)) := hb1.setCell (p := ⟨w.heap.size + 1, 0, none⟩) (by simp) _
  have hend : Hid (P (.returned (.func (.func 30) #[] #[.pointer (some ⟨w.heap.size + 1, 0, none⟩), .pointer (some ⟨w.heap.size, 0, none⟩)])) (w1.setCell ⟨w.heap.size + 1, 0, none⟩ (.int .i64 C))) := Lib.hid (by
    rw [← hP]
    refine ⟨rfl, ⟨bl.other (by omega) _, bw.set _, ?_, hc, ht, hsp⟩, hb2, ?_⟩
    · exact h.belowAll hb2
    · have h1 := (KeepsWalks.setCell w1 ⟨w.heap.size + 1, 0, none⟩ (.int .i64 C)).size
      simp [World.setCell, hs1])
  have c1 := bw.cell
  have f1 := bw.frozen
  have c0 := bl.cell
  clear hP h hc ht hsp bl bw hb1 hb2
  go_enter Tryd.func14, Tryd.ntmps14
  go_wp2_with fail
  exact hend.out
/-- a cut within a line -/
abbrev Ct (N : Nat) := { p : Nat × Nat // p.1 ≤ p.2 ∧ p.2 ≤ N }
def encC {N : Nat} (x : Ct N) : Array Value := #[.int .i64 (x.1.1 : Int), .int .i64 (x.1.2 : Int)]
theorem cuts_all (w : Int) (zs : List Int) : ∃ cs : List (Ct zs.length), cs.map Subtype.val = cutsF w zs := by
  have h : ∀ p ∈ cutsF w zs, p.1 ≤ p.2 ∧ p.2 ≤ zs.length := fun p hp => ⟨(cutFrom_ge w zs _ _ p hp).2, cutFrom_le w zs _ _ (Nat.zero_le _) p hp⟩
  refine ⟨(cutsF w zs).pmap Subtype.mk h, ?_⟩
  rw [List.map_pmap]
  simp
theorem cutFrom_take {W : Int} (hW : 2 ≤ W) {zs : List Int} {f a : Nat} {rest : List (Nat × Nat)} (h : rest = cutFrom W zs (f + 1) a) : ∃ k, fitS W (zs.drop a) = k ∧ ∃ t, rest = (a, a + k) :: t ∧ (a + k = zs.length → t = []) ∧ (a + k ≠ zs.length → t = cutFrom W zs f (a + k)) ∧ a + k ≤ max a zs.length := by
  refine ⟨_, rfl, (if a + fitS W (zs.drop a) = zs.length then [] else cutFrom W zs f (a + fitS W (zs.drop a))), h, fun e => if_pos e, fun e => if_neg e, ?_⟩
  have := fitS_le (zs.drop a) W
  rw [List.length_drop] at this
  omega
set_option maxRecDepth 100000 in
set_option maxHeartbeats 4000000 in
theorem cut1_in (n : Nat) (hn : 2 ≤ n) (l B : Nat) (a : Option Addr) (len cap : Nat) (zs : List Int) (W : Int) (hW : 2 ≤ W ∧ W ≤ 1000) (cs : List (Ct zs.length)) (hcs : cs.map Subtype.val = cutsF W zs) (J Jx : List (Ct zs.length) → World → Prop) (V : World) (hJ : AbidesFrom V.heap.size J)
    (hY : ∀ pre x V1, J pre V1 → pre.length < cs.length → YieldAt Fence.wide (n - 1) Tryd.prog l (encC x) V1 fun e V' =>
      (e = .returned (.bool true) ∧ J (pre ++ [x]) V' ∧ KeepL (lookF B a zs) V1 V') ∨ (e = .returned (.bool false) ∧ Jx (pre ++ [x]) V'))
    (hL : LooksF B a len cap zs W V) (h0 : J [] V) :
    CallsIn Fence.wide n Tryd.prog 30 #[.func (.yield l) #[] #[], .pointer (some ⟨B + 1, 0, none⟩), .pointer (some ⟨B, 0, none⟩)] V fun e V' => (∃ v, e = .returned v) ∧
      ((∃ ys, ys = cs ∧ J ys V') ∨ (∃ pre, (∃ j, j ≤ cs.length ∧ pre = cs.take j) ∧ Jx pre V')) := by
  obtain ⟨P, hP⟩ : ∃ P : Ending → World → Prop, (fun e V' => (∃ v, e = .returned v) ∧ ((∃ ys, ys = cs ∧ J ys V') ∨ (∃ pre, (∃ j, j ≤ cs.length ∧ pre = cs.take j) ∧ Jx pre V'))) = P := ⟨_, rfl⟩
  rw [hP]
  have HP := Lib.hid hP
  have hln := hL.rn.rs.1
  have HLn := Lib.hid hln
  have HY := Lib.hid hY
  have HJ := Lib.hid hJ
  have HL := Lib.hid hL
  have HW := Lib.hid hW
  have HCs := Lib.hid hcs
  have H0 := Lib.hid h0
  have hfit := hL.fit
  have htop := hL.top
  have hfew := hL.rn.few
  rw [← hln] at hfew
  obtain ⟨base, hbase⟩ : ∃ base, V.heap.size = base := ⟨_, rfl⟩
  have hszb : base ≤ V.heap.size := by omega
  rw [hbase] at HJ
  clear hP hY hJ hL hcs hW h0 hbase hln
  refine callsIn_of_wp Tryd.func30 rfl trivial ?_ rfl
  simp only [Tryd.ntmps30, List.size_toArray, List.length_cons, List.length_nil, Nat.reduceAdd, Nat.reduceSub, Array.replicate_succ, Array.replicate_zero, List.push_toArray, List.append_toArray, List.nil_append, List.cons_append]
  gi_wp2_with fail
  gi_loopw [4] (fun i wr => ∃ x f j : Nat, i = .int .i64 (x : Int) ∧ x ≤ len ∧ base ≤ wr.heap.size ∧ Hid (LooksF B a len cap zs W wr ∧ J (cs.take j) wr ∧ (cs.drop j).map Subtype.val = cutFrom W zs (f + 1) x ∧ len ≤ x + f ∧ (x < len ∨ zs = []))) (fun i _ => len - (intOf i).toNat)
  case atStart =>
    refine ⟨0, len, 0, rfl, Nat.zero_le _, hszb, Lib.hid ⟨HL.out, H0.out, ?_, by omega, ?_⟩⟩
    · rw [List.drop_zero, HCs.out, HLn.out]; rfl
    · rw [HLn.out]
      cases zs with
      | nil => exact .inr rfl
      | cons z zs => exact .inl (by simp)
  case round =>
    obtain ⟨x, f, j, rfl, hx, hbw, HF⟩ := hrel
    obtain ⟨hLk, hJ0, hdr, hfu, hne⟩ := HF.out
    obtain ⟨k, hk, t, ht, hz, hnz, hle⟩ := cutFrom_take HW.out.1 hdr
    rw [← HLn.out] at hz hnz hle
    have hkn : x + k ≤ len := by omega
    obtain ⟨c, ct, hd, hc1, hct⟩ : ∃ c ct, cs.drop j = c :: ct ∧ c.1 = (x, x + k) ∧ ct.map Subtype.val = t := by
      cases hcd : cs.drop j with
      | nil => rw [hcd] at ht; cases ht
      | cons c ct =>
        rw [hcd, List.map_cons] at ht
        injection ht with h1 h2
        exact ⟨c, ct, rfl, h1, h2⟩
    have hjl : j < cs.length := by
      rcases Nat.lt_or_ge j cs.length with h | h
      · exact h
      · rw [List.drop_eq_nil_of_le h] at hd; cases hd
    have hcj : cs[j]? = some c := by
      have h := congrArg List.head? hd
      rw [List.head?_drop] at h
      exact h
    have hsn : cs.take (j + 1) = cs.take j ++ [c] := by rw [List.take_add_one, hcj]; rfl
    have hdn : cs.drop (j + 1) = ct := by
      have h := congrArg List.tail hd
      rw [List.tail_drop] at h
      exact h
    have cF : ∀ d os, Calls Tryd.prog 31 #[.int .i64 W, .slice (if cap = x then a else Option.map (fun y => y.add x) a) (len - x) (cap - x)] (Go.Sort.grow (redrawn wr d) os) fun en w'' => en = .returned (.int .i64 (k : Int)) ∧ ∃ p : Regrown, w'' = Go.Sort.grow (redrawn wr p.d) p.os := fun d os => by
      have h := fit_any W (by have := HW.out; omega) (by have := HW.out; omega) _ (len - x) (cap - x) (zs.drop x) (Go.Sort.grow (redrawn wr d) os) ((rn_from hLk.rn hfit x hx hLk.sp).belowAll (below_regrown wr d os))
      rw [hk] at h
      exact Calls.regrown_of h
    have CF := Lib.hid cF
    have z0 := fun d os => cell_regrown hLk.bl.cell d os
    have z1 := fun d os => cell_regrown hLk.bw.cell d os
    have hxc : (x : Int) ≤ cap := by omega
    have hxl : (x : Int) ≤ len := by omega
    have HD := Lib.hid hd
    have HC1 := Lib.hid hc1
    have HCt := Lib.hid hct
    have HSn := Lib.hid hsn
    have HDn := Lib.hid hdn
    have HJl := Lib.hid hjl
    have HZ := Lib.hid hz
    have HNz := Lib.hid hnz
    have HLk := Lib.hid hLk
    have HJ0 := Lib.hid hJ0
    have HFu := Lib.hid hfu
    have HNe := Lib.hid hne
    have HK := Lib.hid hk
    clear cF hd hc1 hct hsn hdn hjl hz hnz hLk hJ0 hdr hfu hne HF hk ht hle hcj
    gi_wp2_with fail
    rw [wpIn_wide]
    refine wp_region_quiet_below (by kernel_rfl) (by kernel_rfl) ?_
    repeat (go_big_quiet_step (exact CF.out _ _))
    refine wpQuiet_nil ?_
    intro _ hw'
    obtain ⟨⟨dq, osq⟩, hw''⟩ := hw'
    have hb9 := below_regrown wr dq osq
    obtain ⟨w9, hw9⟩ : ∃ w9, Go.Sort.grow (redrawn wr dq) osq = w9 := ⟨_, rfl⟩
    rw [hw'']
    simp only
    generalize (if cap = x then a else Option.map (fun y => y.add x) a) = sl
    rw [hw9] at hb9 ⊢
    have hL9 := HLk.out.below hb9
    have hJ9 := HJ.out (cs.take j) wr w9 none HJ0.out (grownBy_of_below hb9) (fun r e => by cases e)
    have hb9' : base ≤ w9.heap.size := Nat.le_trans hbw hb9.size
    obtain ⟨fn, tmps, assign, body, hy, hR⟩ := HY.out (cs.take j) c w9 hJ9 (by rw [List.length_take]; have := HJl.out; omega)
    rw [← HSn.out] at hR
    have hec : encC c = #[.int .i64 (x : Int), .int .i64 ((x : Int) + k)] := by unfold encC; rw [HC1.out]; simp
    rw [hec] at hy
    have HR := Lib.hid hR
    have HL9 := Lib.hid hL9
    have l9 := hL9.bl.cell
    clear hw'' hw9 hb9 hL9 hJ9 hR hec z0 z1 CF HLk HJ0
    gi_wp2_with fail
    refine ⟨fun _ => by omega, HR.out.mono ?_⟩
    rintro e V' (⟨rfl, hJ', hkp⟩ | ⟨rfl, hJx'⟩)
    · have hL' := HL9.out.keep hkp
      have l10 := hL'.bl.cell
      have hb10 : base ≤ V'.heap.size := Nat.le_trans hb9' hkp.1
      by_cases he : x + k = len
      · have hq : (((x : Int) + (k : Int)) == (len : Int)) = true := by rw [beq_iff_eq]; omega
        have hct0 : ct = [] := by
          have h := HCt.out
          rw [HZ.out he] at h
          exact List.map_eq_nil_iff.1 h
        have hall : cs.take (j + 1) = cs := by
          have h1 := List.take_append_drop (j + 1) cs
          rw [HDn.out, hct0, List.append_nil] at h1
          exact h1
        have hend : Hid (∀ v, P (.returned v) V') := Lib.hid (fun v => by
          rw [← HP.out]
          exact ⟨⟨_, rfl⟩, .inl ⟨_, hall, hJ'⟩⟩)
        clear hJ' hkp hL' l9 he hct0 hall
        gi_wp2_with fail
        exact bodyPost_ret (results_none rfl _ _ _) rfl (hend.out _)
      · have hq : (((x : Int) + (k : Int)) == (len : Int)) = false := by rw [beq_eq_false_iff_ne]; omega
        have HE : Hid (LooksF B a len cap zs W V' ∧ J (cs.take (j + 1)) V' ∧ (cs.drop (j + 1)).map Subtype.val = cutFrom W zs (f - 1 + 1) (x + k) ∧ len ≤ x + k + (f - 1) ∧ (x + k < len ∨ zs = [])) := Lib.hid (by
          have hk1 : zs ≠ [] → 1 ≤ k := fun hz => by
            rw [← HK.out]
            refine fitS_pos HW.out.1 (fun e => ?_)
            have h2 : (zs.drop x).length = 0 := by rw [e]; rfl
            rw [List.length_drop, ← HLn.out] at h2
            rcases HNe.out with h | h
            · omega
            · exact hz h
          have hz : zs ≠ [] := by
            rintro rfl
            have := HLn.out
            simp at this
            omega
          have := hk1 hz
          have := HFu.out
          refine ⟨hL', hJ', ?_, by omega, .inl (by omega)⟩
          rw [HDn.out, HCt.out, HNz.out he, show f - 1 + 1 = f by omega])
        have hk1 : 1 ≤ k := by
          have h := HE.out.2.2.2.2
          rcases h with h | h
          · rcases HNe.out with h2 | h2
            · rw [← HK.out]
              refine fitS_pos HW.out.1 (fun e => ?_)
              have h3 : (zs.drop x).length = 0 := by rw [e]; rfl
              rw [List.length_drop, ← HLn.out] at h3
              omega
            · have h3 := HLn.out
              rw [h2] at h3
              simp at h3
              omega
          · have h3 := HLn.out
            rw [h] at h3
            simp at h3
            omega
        clear hJ' hkp hL' l9 he
        gi_wp2_with fail
        go_roundw
        case rel => exact ⟨x + k, f - 1, j + 1, by go_num, hkn, hb10, HE⟩
        case measure => simp [intOf]; omega
    · have hend : Hid (∀ v, P (.returned v) V') := Lib.hid (fun v => by
        rw [← HP.out]
        exact ⟨⟨_, rfl⟩, .inr ⟨_, ⟨j + 1, by have := HJl.out; omega, rfl⟩, hJx'⟩⟩)
      clear hJx'
      gi_wp2_with fail
      exact bodyPost_ret (results_none rfl _ _ _) rfl (hend.out _)
end Go.Proofs.YtkdkhphpknnceaaDoor.F
