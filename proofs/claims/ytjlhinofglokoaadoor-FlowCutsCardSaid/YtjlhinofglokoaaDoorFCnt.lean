/- The contract of flow.Count. -/
import Derived.Test.YtjlhinofglokoaaDoorFCuts
namespace Go.Proofs.YtjlhinofglokoaaDoor.F
open Go.RowKit Go.Shelf H
open W (OwnR RunesIn Rn Tab blkOf blkOf_sub blkOf_some KeepL keepL_t keepL_b fitS fitS_le fit_any)

attribute [local go_sem] Oper.semAt_some

theorem cut_stops (n : Nat) (hn : 2 ≤ n) (B : Nat) (a : Option Addr) (len cap : Nat) (zs : List Int) (W : Int) (hW : 2 ≤ W ∧ W ≤ 1000) (cs : List (Ct zs.length)) (hcs : cs.map Subtype.val = cutsF W zs) (w : World) (hL : LooksF B a len cap zs W w) :
    SeqStopsK Fence.wide n Tryd.prog 48 #[.pointer (some ⟨B + 1, 0, none⟩), .pointer (some ⟨B, 0, none⟩)] encC (KeepL (lookF B a zs)) (fun ys => ys = cs) (fun pre => ∃ j, j ≤ cs.length ∧ pre = cs.take j) cs.length w := fun l J Jx V hV hJ _ hY h0 =>
  cut1_in n hn l B a len cap zs W hW cs hcs J Jx V hJ hY (hL.below hV) h0
theorem cuts_few {w : Int} (hw : 2 ≤ w) (l : List (Int × Int)) : (cutsF w (runesF l)).length ≤ l.length + 1 := by
  rw [cuts_count hw]
  exact (brk_few hw l [] 0 (by simp)).1
theorem own_rn {base : Nat} {v : Value} {zs : List Int} {w : World} (h : OwnR base v zs w) (hT : Tab w) (hf : (zs.length : Int) ≤ 1000000) : ∃ a c, v = .slice a zs.length c ∧ Rn a zs.length zs w ∧ zs.length ≤ c ∧ (c : Int) ≤ 9223372036854775807 ∧ (∀ x, a = some x → x = ⟨x.block, x.off, none⟩) ∧ ∀ b ∈ blkOf a zs, base ≤ b := by
  have hsp : ∀ x len c, v = .slice (some x) len c → x = ⟨x.block, x.off, none⟩ := by
    rcases h.2 with ⟨e, _⟩ | ⟨g, cap, cur, e, _⟩
    · rintro x len c rfl; cases e
    · rintro x len c rfl; injection e with e; injection e with e; rw [e]
  obtain ⟨a, c, rfl, h1, h2, -, h4, h5⟩ := h.shape
  exact ⟨a, c, rfl, ⟨h1, hT, fun b hb => (h2 b hb).2, hf⟩, by omega, h5, (fun x e => hsp x _ _ (by rw [e])), fun b hb => (h2 b hb).1⟩
theorem look_not {B b0 base : Nat} {a : Option Addr} {zs : List Int} (h0 : 0 < b0) (h1 : b0 < base) (h2 : base ≤ B) (hb : ∀ b ∈ blkOf a zs, base ≤ b) : b0 ∉ lookF B a zs := by
  intro hm
  rcases List.mem_cons.1 hm with e | hm
  · omega
  rcases List.mem_cons.1 hm with e | hm
  · omega
  rcases List.mem_cons.1 hm with e | hm
  · omega
  · have := hb _ hm; omega
set_option maxRecDepth 100000 in
set_option maxHeartbeats 4000000 in
theorem count_in (n : Nat) (hn : 6 ≤ n) (a : Option Addr) (len cap : Nat) (l : List (Int × Int)) (W : Int) (w : World) (h : PairsIn .i32 a len cap l w) (hT : Tab w) (hl : (len : Int) ≤ 100000) :
    CallsIn Fence.wide n Tryd.prog 16 #[.slice a len cap, .int .i64 W] w fun e w' => e = .returned (.int .i64 ((cutsF (clampW W) (runesF l)).length : Int)) ∧ Below w.heap.size w w' := by
  have h1 : 1 ≤ n := by omega
  obtain ⟨P, hP⟩ : ∃ P : Ending → World → Prop, (fun e w' => e = .returned (.int .i64 ((cutsF (clampW W) (runesF l)).length : Int)) ∧ Below w.heap.size w w') = P := ⟨_, rfl⟩
  rw [hP]
  have HP := Lib.hid hP
  clear hP
  have hpos := hT.pos
  have HT := Lib.hid hT
  obtain ⟨w1, hw1⟩ : ∃ w1, w.alloc (.cells #[.int .i64 0] 3) = w1 := ⟨_, rfl⟩
  have b01 : Below w.heap.size w w1 := by rw [← hw1]; exact (Below.refl _ _).alloc (Nat.le_refl _) _
  have hs1 : w1.heap.size = w.heap.size + 1 := by rw [← hw1]; simp
  have bN : Boxed w1 w.heap.size 3 (.int .i64 0) := by rw [← hw1]; exact Boxed.new w 3 _
  have HR := Lib.hid (runes_any a len cap l w1 (h.belowAll b01) (by omega))
  have HLn := Lib.hid h.len
  have HBN := Lib.hid bN
  have HB01 := Lib.hid b01
  have HS1 := Lib.hid hs1
  have HW1 := Lib.hid hw1
  clear hT h bN b01 hs1 hw1
  refine callsIn_of_wp_marks Tryd.func16 rfl trivial ?_ rfl
  simp only [Tryd.ntmps16, List.size_toArray, List.length_cons, List.length_nil, Nat.reduceAdd, Nat.reduceSub, Array.replicate_succ, Array.replicate_zero, List.push_toArray, List.append_toArray, List.nil_append, List.cons_append]
  gi_wp2_with fail
  refine ⟨by first | trivial | omega, ?_⟩
  rw [HW1.out]
  refine (callsIn_wide.2 HR.out).mono ?_
  rintro e w2 ⟨v, rfl, hown, hb2⟩
  have hb02 : Below w.heap.size w w2 := HB01.out.trans (hb2.mono HB01.out.size)
  obtain ⟨ra, rc, rfl, hrn, hrc, hrt, hrs, hrb⟩ := own_rn hown (HT.out.belowAll hb02) (by rw [runesF_len, ← HLn.out]; omega)
  have hcu := cuts_any ra (runesF l).length rc (runesF l) W w2 hrn hrc hrt hrs
  obtain ⟨rl, hrl⟩ : ∃ rl, (runesF l).length = rl := ⟨_, rfl⟩
  rw [hrl] at hcu ⊢
  have HCu := Lib.hid hcu
  have HB02 := Lib.hid hb02
  have HBN2 : Hid (Boxed w2 w.heap.size 3 (.int .i64 0)) := Lib.hid ((hb2.block _ HBN.out.lt).trans HBN.out)
  have HRb := Lib.hid hrb
  have hs2 : w1.heap.size ≤ w2.heap.size := hb2.size
  have HS2 := Lib.hid hs2
  clear hown hb2 hb02 hrn hrc hrt hrs hrb hcu hs2
  gi_wp2_with fail
  refine ⟨by first | trivial | omega, ?_⟩
  refine (callsIn_wide.2 HCu.out).mono ?_
  rintro e w3 ⟨rfl, hL3, hb3, hs3⟩
  obtain ⟨cs, hcs⟩ := cuts_all (clampW W) (runesF l)
  have hnl : w.heap.size ∉ lookF w2.heap.size ra (runesF l) := look_not hpos (by have := HS1.out; omega) HS2.out (fun b hb => by have := HRb.out b hb; exact this)
  have hb03 : Below w.heap.size w w3 := HB02.out.trans (hb3.mono HB02.out.size)
  have hbn3 : Boxed w3 w.heap.size 3 (.int .i64 0) := (hb3.block _ HBN2.out.lt).trans HBN2.out
  have hsz3 : w.heap.size ≤ w3.heap.size := hb03.size
  have hcl : cs.length = (cutsF (clampW W) (runesF l)).length := by rw [← hcs, List.length_map]
  have hcl2 : (cs.length : Int) ≤ 200000 := by have := cuts_few (clampW_le W).1 l; have := HLn.out; omega
  have HCl0 := Lib.hid hcl
  have HL3 := Lib.hid hL3
  have HCs := Lib.hid hcs
  have HBN3 := Lib.hid hbn3
  have HB03 := Lib.hid hb03
  have HCl := Lib.hid hcl2
  clear hL3 hb3 hs3 hcs hb03 hbn3 hcl HCu hcl2
  gi_wp2_with fail
  refine wpIn_rangeFunc_ownF rfl h1 (gf := 48) (lb := #[.pointer (some ⟨w2.heap.size + 1, 0, none⟩), .pointer (some ⟨w2.heap.size, 0, none⟩)]) rfl trivial (enters_of Tryd.func48 (by kernel_rfl) rfl)
    (cut_stops (n - 1) (by omega) w2.heap.size ra rl rc (runesF l) (clampW W) (clampW_le W) cs HCs.out w3 HL3.out) (fun h1 h2 => keepL_t h1 h2) (keepL_b HL3.out.all) (Below.refl _ _) (fun _ => rfl)
    (fun pre V => Boxed V w.heap.size 3 (.int .i64 (pre.length : Int)) ∧ Below w.heap.size w V)
    (fun _ _ _ => False)
    (OwnFrom.and (Own.from (boxed_own w.heap.size 3 (fun pre : List (Ct (runesF l).length) => Value.int .i64 (pre.length : Int))) _) (ownFrom_below (Nat.le_refl _) (by omega)))
    (fun _ _ _ _ _ hs _ _ => hs)
    ⟨HBN3.out, HB03.out⟩
    (fun x => { tmps := #[.slice a len cap, .int .i64 W, undef, undef, .int .i64 0, .pointer (some ⟨w.heap.size, 0, none⟩), .slice a len cap, .slice ra rl rc, .int .i64 W, .func (.func 48) #[] #[.pointer (some ⟨w2.heap.size + 1, 0, none⟩), .pointer (some ⟨w2.heap.size, 0, none⟩)], .int .i64 (x.1.1 : Int), .int .i64 (x.1.2 : Int), undef, undef, undef], defers := [] }) ?assign ?body ?done ?stop
  case assign =>
    intro l x V K hK
    gi_wp2
    simpa [encC] using hK
  case body =>
    rintro l pre x V ⟨hv, hB⟩ hltp
    have hc := hv.cell
    have hf := hv.frozen
    have hpl : (pre.length : Int) ≤ 200000 := by have := HCl.out; omega
    have HV := Lib.hid hv
    have HB := Lib.hid hB
    clear hv hB hltp
    gi_wp2
    have e2 : (pre.length : Int) + 1 = ((pre ++ [x]).length : Int) := by simp
    rw [e2]
    exact ⟨KeepsOthers.setCell _ _ _, KeepL.setCell _ hnl _ _, HV.out.set _, HB.out.setCell (p := ⟨w.heap.size, 0, none⟩) (by simp) _⟩
  case done =>
    rintro D ys V hD hS ⟨hv, hB⟩ hK
    have hc := hv.cell
    subst hS
    have HB := Lib.hid hB
    have HK := Lib.hid hK
    have HD := Lib.hid hD
    clear hv hB hK hD
    gi_wp2
    refine ⟨by simp, .inl ⟨_, _, rfl, run_takeDeferred HK.out, ?_⟩⟩
    rw [← HP.out]
    exact ⟨_, results_tmp rfl _ _ _, by rw [← HCl0.out]; rfl, HB.out.trans (belowK_b (w := w3) (by omega) V D _ _ HD.out HK.out rfl rfl)⟩
  case stop =>
    rintro D c pre V hD _ h
    exact h.elim
theorem count_any (a : Option Addr) (len cap : Nat) (l : List (Int × Int)) (W : Int) (w : World) (h : PairsIn .i32 a len cap l w) (hT : Tab w) (hl : (len : Int) ≤ 100000) :
    Calls Tryd.prog 16 #[.slice a len cap, .int .i64 W] w fun e w' => e = .returned (.int .i64 ((cutR (clampW W) l).length : Int)) ∧ Below w.heap.size w w' := by
  have h1 := (callsIn_wide (n := 6)).1 (count_in 6 (Nat.le_refl _) a len cap l W w h hT hl)
  rw [cuts_count (clampW_le W).1] at h1
  exact h1
end Go.Proofs.YtjlhinofglokoaaDoor.F
