/- The document's cache: New, Find. -/
import Derived.Test.YtgagkmlkoeceiaaCEnt
import Derived.Test.YtgagkmlkoeceiaaCPut
import Derived.Lib.MinMax
namespace Go.Proofs.Ytgagkmlkoeceiaa.C
open Go.RowKit Go.Maps Go.Proofs.Ytgagkmlkoeceiaa.H

theorem results_c1 {fn : Func} {p : Tmp} {ty : TypeId} (h : fn.results = #[.cell p ty]) (tmps : Array Value) (P : Program) (w : World) :
    (results fn tmps).run P w = ((asAddr (tmps.getD p undef)).run P w).andThen fun a w₁ => (loadVar ty a).run P w₁ := by
  simp only [results, h]
  simp [Sem.run_bind, Result.andThen]
theorem results_ct {fn : Func} {p q : Tmp} {ty : TypeId} (h : fn.results = #[.cell p ty, .tmp q]) (tmps : Array Value) (P : Program) (w : World) :
    (results fn tmps).run P w = ((asAddr (tmps.getD p undef)).run P w).andThen fun a w₁ => ((loadVar ty a).run P w₁).andThen fun v w₂ => .ok (.tuple #[v, tmps.getD q undef]) w₂ := by
  simp only [results, h]
  simp [Sem.run_bind, Result.andThen]
theorem results_ctt {fn : Func} {p q r : Tmp} {ty : TypeId} (h : fn.results = #[.cell p ty, .tmp q, .tmp r]) (tmps : Array Value) (P : Program) (w : World) :
    (results fn tmps).run P w = ((asAddr (tmps.getD p undef)).run P w).andThen fun a w₁ => ((loadVar ty a).run P w₁).andThen fun v w₂ => .ok (.tuple #[v, tmps.getD q undef, tmps.getD r undef]) w₂ := by
  simp only [results, h]
  simp [Sem.run_bind, Result.andThen]
theorem zeroEnt (w : World) : (zeroValue 63).run Try.prog w = .ok (.agg #[.int .i64 0, .slice none 0 0]) w := by kernel_rfl
theorem zeroRC (w : World) : (zeroValue 28).run Try.prog w = .ok (.agg #[.int .i64 0, .slice none 0 0]) w := by kernel_rfl
theorem RefC.empty (M : List Nat) (m : Nat) (w : World) : RefC M (.agg #[.int .i64 (m : Int), .slice none 0 0]) ⟨m, []⟩ w := ⟨none, 0, 0, [], rfl, ⟨rfl, Nat.le_refl _, by decide, fun _ => rfl, .inl rfl⟩, .nil, fun _ _ e => by cases e⟩
set_option maxRecDepth 100000 in
set_option maxHeartbeats 4000000 in
theorem rnew_any (z : Int) (w : World) : Calls Try.prog 7 #[.int .i64 z] w fun r w' => r = .returned (.agg #[.int .i64 (mostN z : Int), .slice none 0 0]) ∧ Below w.heap.size w w' := by
  obtain ⟨P, hP⟩ : ∃ P : Ending → World → Prop, (fun r w' => r = .returned (.agg #[.int .i64 (mostN z : Int), .slice none 0 0]) ∧ Below w.heap.size w w') = P := ⟨_, rfl⟩
  rw [hP]
  have HP := Lib.hid hP
  obtain ⟨m, hm⟩ : ∃ m, mostN z = m := ⟨_, rfl⟩
  have hm0 : max 1 (min z 65536) = (m : Int) := by rw [← hm]; unfold mostN; omega
  have HM := Lib.hid hm
  clear hP hm
  go_enter Try.func7, Try.ntmps7
  go_wp2_with fail
  have hx := heap_alloc_new w (.cells #[.int .i64 (m : Int), .slice none 0 0] 28)
  obtain ⟨w1, hw1⟩ : ∃ w1, w.alloc (.cells #[.int .i64 (m : Int), .slice none 0 0] 28) = w1 := ⟨_, rfl⟩
  have hb := alloc_below w (.cells #[.int .i64 (m : Int), .slice none 0 0] 28)
  rw [hw1] at hx hb ⊢
  have g0 : w1.cell? ⟨w.heap.size, 0, none⟩ = some (.int .i64 (m : Int)) := by rw [cell_block hx]; rfl
  have g1 : w1.cell? ⟨w.heap.size, 1, none⟩ = some (.slice none 0 0) := by rw [cell_block hx]; rfl
  refine bodyPost_ret (v := .agg #[.int .i64 (m : Int), .slice none 0 0]) (by rw [results_c1 rfl]; go_simp) rfl ?_
  rw [← HP.out]
  exact ⟨by rw [HM.out], hb⟩
theorem find_first : ∀ {L : List (Int × List (Int × Int))} {j : Nat} {y : Int × List (Int × Int)}, L[j]? = some y → (∀ x ∈ L.take j, x.1 ≠ y.1) → findC L y.1 = some y.2
  | [], j, y, h, _ => by cases h
  | x :: L, 0, y, h, _ => by
    obtain rfl : x = y := by simpa using h
    unfold findC
    rw [List.find?_cons]
    simp
  | x :: L, j + 1, y, h, hn => by
    have h1 : x.1 ≠ y.1 := hn x (by simp)
    have ih := find_first (L := L) (j := j) (y := y) (by simpa using h) (fun z hz => hn z (by rw [List.take_succ_cons]; exact List.mem_cons_of_mem _ hz))
    unfold findC at ih ⊢
    rw [List.find?_cons]
    have e3 : (x.1 == y.1) = false := by simpa using h1
    rw [e3]
    exact ih
def FindPost (M : List Nat) (L : List (Int × List (Int × Int))) (i : Int) (w : World) (r : Ending) (w' : World) : Prop := ∃ a c, r = .returned (.tuple #[.slice a ((findC L i).getD []).length c, .bool (findC L i).isSome]) ∧ PairsIn .i64 a ((findC L i).getD []).length c ((findC L i).getD []) w' ∧ (∀ p o, a = some ⟨p, o, none⟩ → p ∉ M ∧ p < w.heap.size) ∧ Below w.heap.size w w'
set_option maxRecDepth 100000 in
set_option maxHeartbeats 8000000 in
theorem rfind_any (M : List Nat) (X : Value) (x : Ca) (i : Int) (w : World) (h : RefC M X x w) : Calls Try.prog 19 #[X, .int .i64 i] w (FindPost M x.L i w) := by
  obtain ⟨a, n, c, es, rfl, h1, h2, h3⟩ := h
  obtain ⟨P, hP⟩ : ∃ P, FindPost M x.L i w = P := ⟨_, rfl⟩
  rw [hP]
  have HP := Lib.hid hP
  obtain ⟨m, hm⟩ : ∃ m : Int, (x.most : Int) = m := ⟨_, rfl⟩
  rw [hm]
  obtain ⟨p, hp⟩ : ∃ p, p = w.heap.size := ⟨_, rfl⟩
  obtain ⟨w1, hw1⟩ : ∃ w1, w1 = w.alloc (.cells #[.int .i64 m, .slice a n c] 28) := ⟨_, rfl⟩
  have hx1 : w1.heap[p]? = some (.cells #[.int .i64 m, .slice a n c] 28 (0, 0)) := by rw [hw1, hp]; exact heap_alloc_new w _
  have hb1 : Below w.heap.size w w1 := by rw [hw1]; exact alloc_below w _
  have c0 : w1.cell? ⟨p, 0, none⟩ = some (.int .i64 m) := by rw [cell_block hx1]; rfl
  have c1 : w1.cell? ⟨p, 1, none⟩ = some (.slice a n c) := by rw [cell_block hx1]; rfl
  have hln := h2.len
  have H1 := Lib.hid h1
  have H2 := Lib.hid h2
  have HB1 := Lib.hid hb1
  have HLn : Hid (n = x.L.length) := Lib.hid (h1.len.trans hln)
  have HEn : Hid (n = es.length) := Lib.hid h1.len
  have HW1 := Lib.hid hw1
  have HPp := Lib.hid hp
  have hnc := h1.fit
  have htop := h1.top
  have hzE := zeroEnt
  clear hP h1 h2 hm hp hw1 hx1 hb1 hln
  go_enter Try.func19, Try.ntmps19
  go_upto_region 1 with fail
  rw [← HW1.out, ← HPp.out]
  go_wp2_with fail
  go_loopw [11] (fun v wr => ∃ j : Nat, v = .int .i64 (j : Int) ∧ j ≤ n ∧ Hid (Below w1.heap.size w1 wr ∧ ∀ y ∈ x.L.take j, y.1 ≠ i)) (fun v _ => n - (intOf v).toNat)
  case atStart => exact ⟨0, rfl, Nat.zero_le _, Lib.hid ⟨Below.refl _ _, by simp⟩⟩
  case round =>
    obtain ⟨j, rfl, hj, HF⟩ := hrel
    have hbw : Below w.heap.size w wr := HB1.out.trans (HF.out.1.mono HB1.out.size)
    by_cases hlt : j < n
    · have hd : decide (j < n) = true := decide_eq_true hlt
      have hjI : (j : Int) < n := by omega
      obtain ⟨y, hy⟩ : ∃ y, x.L[j]? = some y := ⟨_, List.getElem?_eq_getElem (by rw [← HLn.out]; exact hlt)⟩
      obtain ⟨e, he, hev⟩ := H2.out.at hy
      obtain ⟨b, off, rfl, hb, hi⟩ := H1.out.at_.resolve_left (by intro e9; rw [e9] at he; cases he)
      obtain ⟨k0, k1⟩ := hi j e he
      have k0 := (hbw.cell (p := ⟨b, off + j * 2, none⟩) hb).trans k0
      have k1 := (hbw.cell (p := ⟨b, off + j * 2 + 1, none⟩) hb).trans k1
      obtain ⟨ei, ea, en, ec⟩ := e
      obtain ⟨rfl, hpy, hpp⟩ := hev
      have hel : en = y.2.length := hpy.len
      simp only at k0 k1 hpy hpp hel
      obtain ⟨yi, yg⟩ := y
      simp only at k0 k1 hpy hpp hel
      obtain ⟨s5, hs5⟩ : ∃ s5, s5 = wr.heap.size := ⟨_, rfl⟩
      obtain ⟨w5, hw5⟩ : ∃ w5, w5 = wr.alloc (.cells #[.int .i64 yi, .slice ea en ec] 63) := ⟨_, rfl⟩
      have hx5 : w5.heap[s5]? = some (.cells #[.int .i64 yi, .slice ea en ec] 63 (0, 0)) := by rw [hw5, hs5]; exact heap_alloc_new _ _
      have hb5 : Below w1.heap.size w1 w5 := by rw [hw5]; exact HF.out.1.trans ((alloc_below _ _).mono HF.out.1.size)
      have g0 : w5.cell? ⟨s5, 0, none⟩ = some (.int .i64 yi) := by rw [cell_block hx5]; rfl
      have g1 : w5.cell? ⟨s5, 1, none⟩ = some (.slice ea en ec) := by rw [cell_block hx5]; rfl
      have HW5 := Lib.hid hw5
      have HS5 := Lib.hid hs5
      have HB5 := Lib.hid hb5
      have HY := Lib.hid hy
      have HNo := Lib.hid HF.out.2
      have HPy : Hid (PairsIn .i64 ea en ec yg w5 ∧ en = yg.length ∧ ∀ p o, ea = some ⟨p, o, none⟩ → p ∉ M ∧ p < w.heap.size) := Lib.hid ⟨hpy.belowAll (HB1.out.trans (hb5.mono HB1.out.size)), hel, hpp⟩
      clear hy he hi hb hbw hw5 hs5 hx5 hb5 hpy hpp hel HF
      go_upto_region 4 with fail
      rw [← HW5.out, ← HS5.out]
      clear HW5 HS5 k0 k1
      by_cases hyi : yi = i
      · subst hyi
        have hend : Hid (P (.returned (.tuple #[.slice ea en ec, .bool true])) w5) := Lib.hid (by
          have hf := find_first HY.out HNo.out
          rw [← HP.out]
          unfold FindPost
          simp only at hf
          rw [hf]
          obtain ⟨q1, rfl, q3⟩ := HPy.out
          exact ⟨ea, ec, rfl, q1, q3, HB1.out.trans (HB5.out.mono HB1.out.size)⟩)
        clear HPy HNo HY
        go_wp2_with fail
        all_goals exact hend.out
      · have hd2 : (yi == i) = false := by simpa using hyi
        have HE : Hid (Below w1.heap.size w1 w5 ∧ ∀ y ∈ x.L.take (j + 1), y.1 ≠ i) := Lib.hid ⟨HB5.out, fun y hy => by
          obtain ⟨hk, he⟩ := List.getElem?_eq_some_iff.1 HY.out
          rw [List.take_succ_eq_append_getElem hk, he] at hy
          rcases List.mem_append.1 hy with hy | hy
          · exact HNo.out y hy
          · rw [show y = (yi, yg) by simpa using hy]; exact hyi⟩
        clear HPy HNo HY
        go_wp2_with fail
        go_roundw
        case rel => exact ⟨j + 1, by go_num, by omega, HE⟩
        case measure => simp [intOf]; omega
    · obtain rfl : j = n := by omega
      have hd : decide (j < j) = false := by simp
      have hend : Hid (P (.returned (.tuple #[.slice none 0 0, .bool false])) wr) := Lib.hid (by
        have hf : findC x.L i = none := find_none _ _ (fun y hy => HF.out.2 y (by rw [List.take_of_length_le (by rw [HLn.out]; exact Nat.le_refl _)]; exact hy))
        rw [← HP.out]
        unfold FindPost
        rw [hf]
        exact ⟨none, 0, rfl, ⟨rfl, Nat.le_refl _, by decide, .inl rfl⟩, (fun _ _ e => by cases e), hbw⟩)
      clear HF hbw hlt
      go_wp2_with fail
      all_goals exact hend.out
end Go.Proofs.Ytgagkmlkoeceiaa.C
