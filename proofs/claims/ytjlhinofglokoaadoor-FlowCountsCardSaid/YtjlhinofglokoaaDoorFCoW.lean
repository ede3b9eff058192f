/- FlowCounts: how many rows there are: the walk. -/
import Derived.Test.YtjlhinofglokoaaDoorFAwk
import Derived.Test.YtjlhinofglokoaaDoorWRef
import Derived.Lib.MinMax
namespace Go.Proofs.YtjlhinofglokoaaDoor.F
open Go.RowKit H
open W (Tab ofS refOf refOf_any ofS_ref ofS_le)

theorem clamp_go (W : Int) : max 2 (min W 1000) = clampW W := rfl
theorem counts_math {C : Int} (hC : 2 ≤ C) (l : List (Int × Int)) : ((cutR C l).length : Int) ≥ ((sumG l : Int) + C - 1).tdiv C ∧ ((cutR C l).length : Int) ≤ max 1 (l.length : Int) ∧ 1 ≤ (cutR C l).length ∧ (C < (sumG l : Int) ↔ 1 < (cutR C l).length) := by
  have h1 := brk_sum hC l [] 0 rfl (by omega)
  have h2 := brk_few hC l [] 0 (by simp)
  have h3 := brk_pos C l [] 0
  have h4 := brk_one (w := C) l [] 0 rfl (by omega)
  rw [sumG_nil, Nat.zero_add] at h1 h4
  unfold cutR
  refine ⟨?_, ?_, h3, ?_⟩
  · rw [Int.tdiv_eq_ediv_of_nonneg (by omega)]
    have : ((sumG l : Int) + C - 1) / C ≤ ((brk C l [] 0).length : Int) := by
      apply Int.le_of_lt_add_one
      apply Int.ediv_lt_of_lt_mul (by omega)
      rw [Int.add_mul]
      omega
    exact this
  · cases l with
    | nil => simp [brk]; omega
    | cons g l => have := h2.2 rfl (by simp); omega
  · omega
/-- the first ones, in a slice of our own -/
theorem lit_q (w : World) : OwnQ .i32 42 w.heap.size (.slice (some ⟨w.heap.size, 0, none⟩) 0 0) [] (w.alloc (.cells #[] 42)) := OwnP.lit2 w
set_option maxRecDepth 100000 in
set_option maxHeartbeats 8000000 in
theorem counts_walk (a : Option Addr) (len cap : Nat) (l0 : List (Int × Int)) (W : Int) (w : World) (hT : Tab w) (h : PairsIn .i32 a len cap l0 w) (hr : RngG l0) :
    Calls Tryd.prog 7 #[.slice a len cap, .int .i64 W] w fun e w' => e = .returned (.bool true) ∧ Below w.heap.size w w' := by
  obtain ⟨P, hP⟩ : ∃ P : Ending → World → Prop, (fun e w' => e = .returned (.bool true) ∧ Below w.heap.size w w') = P := ⟨_, rfl⟩
  rw [hP]
  have HP := Lib.hid hP
  have HT := Lib.hid hT
  have HA := Lib.hid (awake_any w hT)
  obtain ⟨M, hM⟩ : ∃ M : Nat, min (len : Int) 60 = (M : Int) := ⟨min len 60, by omega⟩
  have hml : M ≤ len := by omega
  have hm60 : M ≤ 60 := by omega
  have hmc : (M : Int) ≤ cap := by have := h.fit; omega
  have htop := h.top
  obtain ⟨l, hl⟩ : ∃ l, l0.take M = l := ⟨_, rfl⟩
  have hll : l.length = M := by rw [← hl, List.length_take, ← h.len]; omega
  have HG : Hid (PairsIn .i32 a M cap l w) := Lib.hid (by rw [← hl]; exact h.take M hml)
  have HR : Hid (RngG l) := Lib.hid (by rw [← hl]; exact fun g hg => hr g (List.mem_of_mem_take hg))
  have HLl := Lib.hid hll
  obtain ⟨rb, hrb⟩ : ∃ rb, w.heap.size = rb := ⟨_, rfl⟩
  have HRb := Lib.hid hrb
  clear hP hT h hr hl hll hrb
  go_enter Tryd.func7, Tryd.ntmps7
  go_wp2_with fail
  refine HA.out.mono ?_
  rintro e w1 ⟨rfl, hb1⟩
  have hb2 : Below w1.heap.size w1 (w1.alloc (.cells #[] 42)) := (Below.refl _ _).alloc (Nat.le_refl _) _
  have HO := Lib.hid (lit_q w1)
  have HG1 := Lib.hid (HG.out.belowAll (hb1.trans (hb2.mono hb1.size)))
  have HB1 := Lib.hid hb1
  have HB2 := Lib.hid hb2
  clear hb1 hb2 HA
  go_wp2_with (at_builtin; refine wpList_append_q gluT rfl _ _ rfl rfl w1.heap.size _ [] a M cap l rfl rfl HO.out HG1.out (by simp) (by have := HLl.out; omega) HB2.out.size ?_)
  intro v' w3 hg
  have hb3 : Below w1.heap.size w1 w3 := HB2.out.grown hg.grown HB2.out.size (fun q hq => (HO.out.own q hq).1)
  obtain ⟨a3, c3, rfl, hp3, hn3, -⟩ := hg.own.shape
  rw [HLl.out] at hp3
  try simp only [List.nil_append]
  rw [HLl.out]
  have HP3 := Lib.hid hp3
  have HB3 : Hid (Below w.heap.size w w3) := Lib.hid (HB1.out.trans (hb3.mono HB1.out.size))
  have HS3 : Hid (rb ≤ w3.heap.size) := Lib.hid (by rw [← HRb.out]; exact HB3.out.size)
  clear hg hb3 hp3 hn3 HO HG1 HB2
  go_wp2_with fail
  go_loopw [5, 20] (fun s i wr => ∃ j A : Nat, i = .int .i64 (j : Int) ∧ s = .int .i64 (A : Int) ∧ j ≤ M ∧ A ≤ 2 * j ∧ Hid (A = sumG (l.take j) ∧ Below w3.heap.size w3 wr)) (fun _ i _ => M - (intOf i).toNat)
  case atStart => exact ⟨0, 0, rfl, rfl, Nat.zero_le _, Nat.zero_le _, Lib.hid ⟨rfl, Below.refl _ _⟩⟩
  case round =>
    obtain ⟨j, A, rfl, rfl, hj, hA, HF⟩ := hrel
    by_cases hlt : j < M
    · have hd : decide (j < M) = true := decide_eq_true hlt
      have hjI : (j : Int) < M := by omega
      have hjl : j < l.length := by rw [HLl.out]; exact hlt
      obtain ⟨b, off, rfl, hb, hat⟩ := HP3.out.at_.resolve_left (by intro e; rw [e] at hjl; simp at hjl)
      have htk := List.take_succ_eq_append_getElem hjl
      have hrg := HR.out l[j] (List.getElem_mem hjl)
      obtain ⟨⟨z, sty⟩, hg⟩ : ∃ g, l[j] = g := ⟨_, rfl⟩
      have hk := hat j (z, sty) (by rw [List.getElem?_eq_getElem hjl, hg])
      rw [hg] at htk hrg
      have k0 := (HF.out.2.cell (p := ⟨b, off + j * 2, none⟩) hb).trans hk.1
      have k1 := (HF.out.2.cell (p := ⟨b, off + j * 2 + 1, none⟩) hb).trans hk.2
      have hsz : A + ofS z = sumG (l.take (j + 1)) := by rw [htk, sumG_append, ← HF.out.1, sumG_cons, sumG_nil]; rfl
      have hof := ofS_le z
      have href := ofS_ref z hrg.1 hrg.2
      obtain ⟨Z, hZ⟩ : ∃ Z, ofS z = Z := ⟨_, rfl⟩
      rw [hZ] at hsz hof href
      have hwr : IntKind.i64.wrap z = z := by rw [IntKind.wrap_i64]; have h1 := hrg.1; have h2 := hrg.2; simp only at h1 h2; omega
      have HSz := Lib.hid hsz
      have HOf := Lib.hid (refOf_any z (wr.alloc (.cells #[.int .i32 z, .int .i64 sty] 42)))
      rw [← href] at HOf
      clear hat hjl htk hrg hg hk hsz hZ href hb
      go_wp2_with fail
      refine HOf.out.mono ?_
      rintro e w5 ⟨rfl, hb5⟩
      have hb45 : Below wr.heap.size wr w5 := ((Below.refl _ _).alloc (Nat.le_refl _) (.cells #[.int .i32 z, .int .i64 sty] 42)).trans (hb5.mono (by simp))
      have HE : Hid (A + Z = sumG (l.take (j + 1)) ∧ Below w3.heap.size w3 w5) := Lib.hid ⟨HSz.out, HF.out.2.trans (hb45.mono HF.out.2.size)⟩
      clear hb5 hb45 HOf k0 k1
      go_wp2_with fail
      go_roundw
      case rel => exact ⟨j + 1, A + Z, by go_num, by go_num, by omega, by omega, HE⟩
      case measure => simp [intOf]; omega
    · obtain rfl : j = M := by omega
      have hd : decide (j < j) = false := by simp
      have hA0 := HF.out.1
      rw [List.take_of_length_le (by rw [HLl.out]; exact Nat.le_refl _)] at hA0
      have hw4 := HF.out.2
      have HCn := Lib.hid (count_any a3 j c3 l W wr (HP3.out.belowAll hw4) ((HT.out.belowAll HB3.out).belowAll hw4) (by omega))
      obtain ⟨q1, q2, q3, q4⟩ := counts_math (clampW_le W).1 l
      have hcl := clampW_le W
      have hfewer := (brk_few (clampW_le W).1 l [] 0 (by simp)).1
      have hcw := clamp_go W
      obtain ⟨C, hC⟩ : ∃ C, clampW W = C := ⟨_, rfl⟩
      obtain ⟨N, hN⟩ : ∃ N, (cutR C l).length = N := ⟨_, rfl⟩
      have hN2 : N ≤ j + 1 := by rw [← hN, ← HLl.out, ← hC]; exact hfewer
      rw [hC] at HCn q1 q2 q3 q4 hcl hcw
      rw [hN] at HCn q1 q2 q3 q4
      rw [← hA0] at q1 q4
      rw [HLl.out] at q2
      obtain ⟨Q, hQ⟩ : ∃ Q, ((A : Int) + C - 1).tdiv C = Q := ⟨_, rfl⟩
      rw [hQ] at q1
      have hq0 : 0 ≤ Q := by rw [← hQ]; exact Int.tdiv_nonneg (by omega) (by omega)
      have hqw : wrap64 Q = Q := IntWalk.wrap64_in _ (by constructor <;> omega)
      have d1 : decide ((N : Int) ≥ Q) = true := decide_eq_true q1
      have d1' : decide (Q ≤ (N : Int)) = true := decide_eq_true q1
      obtain ⟨X, hX⟩ : ∃ X, max 1 (j : Int) = X := ⟨_, rfl⟩
      rw [hX] at q2
      have d2 : decide ((N : Int) ≤ X) = true := decide_eq_true q2
      have d3 : decide ((N : Int) ≥ 1) = true := decide_eq_true (by omega)
      have d3' : decide (1 ≤ N) = true := decide_eq_true (by omega)
      have HB5 : Hid (Below w.heap.size w wr) := Lib.hid (HB3.out.trans (hw4.mono HB3.out.size))
      have hC0 : C ≠ 0 := by omega
      have hc2 := hcl.1
      have hc3 := hcl.2
      have d4 : (decide ((A : Int) > C) == decide ((N : Int) > 1)) = true := by
        rw [beq_iff_eq, decide_eq_decide]
        omega
      have HB : Hid (∀ w', Below wr.heap.size wr w' → P (.returned (.bool true)) w') := Lib.hid (fun w' hb => by rw [← HP.out]; exact ⟨rfl, HB5.out.trans (hb.mono HB5.out.size)⟩)
      clear q1 q2 q3 q4 hN hC hA0 hw4 hfewer hcl HF hlt hN2
      go_wp2_with fail
      refine HCn.out.mono ?_
      rintro e w5 ⟨rfl, hb5⟩
      have HE := Lib.hid (HB.out w5 hb5)
      clear hb5 HCn
      go_wp2_with fail
      exact HE.out
end Go.Proofs.YtjlhinofglokoaaDoor.F
