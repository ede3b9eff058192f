/- The contracts of book.New, Len, Chain, Line, Begun, and of chained. -/
import Derived.Test.YtkggmcnocpgnbaaDoorMerged13
namespace Go.Proofs.YtkggmcnocpgnbaaDoor.K
open Go.RowKit

theorem bnew_any (w : World) : Calls Tryd.prog 12 #[] w fun e w' => ∃ b, e = .returned (.pointer (some ⟨b, 0, none⟩)) ∧ w.heap.size ≤ b ∧ Bo b [b] [] ⟨[], []⟩ w' ∧ Below w.heap.size w w' := by
  have H := Lib.hid (Bo.new w)
  have HB : Hid (Below w.heap.size w (w.alloc (.cells #[.slice none 0 0, .slice none 0 0] 99))) := Lib.hid ((Below.refl _ _).alloc (Nat.le_refl _) _)
  go_enter Tryd.func12, Tryd.ntmps12
  go_wp2_with fail
  go_ret
  exact ⟨_, rfl, Nat.le_refl _, H.out, HB.out⟩
theorem blen_any {b : Nat} {M N : List Nat} {x : Bk} (w : World) (h : Bo b M N x w) : Calls Tryd.prog 18 #[.pointer (some ⟨b, 0, none⟩)] w fun e w' => e = .returned (.int .i64 (x.L.length : Int)) ∧ w = w' := by
  obtain ⟨vl, vb, us, h⟩ := h
  obtain ⟨a, c, rfl, -⟩ := h.own.shape
  have c0 := h.c0
  rw [h.lv.len] at c0
  obtain ⟨n, hn⟩ : ∃ n, x.L.length = n := ⟨_, rfl⟩
  rw [hn] at c0 ⊢
  clear h hn
  go_enter Tryd.func18, Tryd.ntmps18
  go_wp2_with fail
  go_ret
  exact ⟨rfl, rfl⟩
set_option maxHeartbeats 2000000 in
theorem bchain_any {b : Nat} {M N : List Nat} {x : Bk} (k : Nat) (w : World) (h : Bo b M N x w) (hk : k ≤ x.L.length) (hm : x.L.length ≤ 1000000) : Calls Tryd.prog 33 #[.pointer (some ⟨b, 0, none⟩), .int .i64 (k : Int)] w fun e w' => e = .returned (.int .i64 (chainB (x.L.take k) : Nat)) ∧ w = w' := by
  have HL := Lib.hid (blen_any w h)
  obtain ⟨vl, vb, us, h⟩ := h
  obtain ⟨a, c, rfl, hfc, hct, hat⟩ := h.own.shape
  have c0 := h.c0
  have hln := h.lv.len
  rw [hln] at c0 hfc
  obtain ⟨n, hn⟩ : ∃ n, x.L.length = n := ⟨_, rfl⟩
  have HLv := Lib.hid h.lv
  have HN := Lib.hid hn
  have HU := Lib.hid hln
  rw [hn] at c0 hk hm hfc
  have hmn : min (k : Int) (n : Int) = (k : Int) := by omega
  obtain ⟨P, hP⟩ : ∃ P : Ending → World → Prop, (fun e w' => e = .returned (.int .i64 (chainB (x.L.take k) : Nat)) ∧ w = w') = P := ⟨_, rfl⟩
  rw [hP]
  have HP := Lib.hid hP
  clear hP h hln hn
  rcases k with _ | j
  · have hend : Hid (P (.returned (.int .i64 0)) w) := Lib.hid (by rw [← HP.out]; exact ⟨rfl, rfl⟩)
    clear hat HLv
    go_enter Tryd.func33, Tryd.ntmps33
    go_wp2_with fail
    refine HL.out.mono ?_
    rintro e w2 ⟨rfl, rfl⟩
    rw [HN.out]
    go_wp2_with fail
    exact hend.out
  · have hjl : j < us.length := by rw [HU.out, HN.out]; omega
    have hjx : j < x.L.length := by rw [HN.out]; omega
    obtain ⟨g, rfl, hgl, hi⟩ := hat.resolve_left (by intro e; rw [e] at hjl; simp at hjl)
    have hc := (hi j us[j] (List.getElem?_eq_getElem hjl)).2
    have hch := (HLv.out.at_ j us[j] x.L[j] (List.getElem?_eq_getElem hjl) (List.getElem?_eq_getElem hjx)).2.2
    obtain ⟨⟨ya, yn, yc, ych⟩, hy⟩ : ∃ u, us[j] = u := ⟨_, rfl⟩
    rw [hy] at hc hch
    simp only at hc hch
    rw [show 0 + j * 2 + 1 = j * 2 + 1 by omega] at hc
    have hend : Hid (P (.returned (.int .i64 (ych : Int))) w) := Lib.hid (by rw [← HP.out, hch]; exact ⟨rfl, rfl⟩)
    have hd : decide (((j + 1 : Nat) : Int) ≤ 0) = false := decide_eq_false (by omega)
    have hd' : decide ((j : Int) + 1 ≤ 0) = false := decide_eq_false (by omega)
    have hm2 : min ((j : Int) + 1) (n : Int) = (j : Int) + 1 := by omega
    have hm3 : (j : Int) + 1 - 1 = (j : Int) := by omega
    have hjn : (j : Int) < n := by omega
    clear hi hch hy hjl hjx HLv HU hk
    go_enter Tryd.func33, Tryd.ntmps33
    go_wp2_with fail
    refine HL.out.mono ?_
    rintro e w2 ⟨rfl, rfl⟩
    rw [HN.out]
    go_wp2_with fail
    exact hend.out
theorem OwnP.lit2 (w : World) : OwnQ .i32 61 w.heap.size (.slice (some ⟨w.heap.size, 0, none⟩) 0 0) [] (w.alloc (.cells #[] 61)) := (OwnP.lit .i32 _ w w.heap.size (Nat.le_refl _)).toQ
/-- pairs of our own come back -/
def CloPost (l : List (Int × Int)) (w : World) (e : Ending) (w' : World) : Prop := ∃ v, e = .returned v ∧ OwnQ .i32 61 w.heap.size v l w' ∧ Below w.heap.size w w'
set_option maxHeartbeats 2000000 in
theorem clone_pairs (a : Option Addr) (n c : Nat) (l : List (Int × Int)) (w : World) (hI : PairsIn .i32 a n c l w) (hnil : a = none → c = 0) (hn : n ≤ 1000000) :
    Calls Tryd.prog 52 #[.slice a n c] w (CloPost l w) := by
  obtain ⟨P, hP⟩ : ∃ P, CloPost l w = P := ⟨_, rfl⟩
  rw [hP]
  have HP := Lib.hid hP
  cases a with
  | none =>
    have h0 : l = [] := hI.at_.resolve_right (by rintro ⟨b, off, e, -⟩; cases e)
    obtain rfl : c = 0 := hnil rfl
    obtain rfl : n = 0 := by have := hI.fit; omega
    have hend : Hid (P (.returned (.slice none 0 0)) w) := Lib.hid (by rw [← HP.out, h0]; exact ⟨_, rfl, OwnQ.nil _ _ _ _, Below.refl _ _⟩)
    clear hP hI h0 hnil
    have qn : ∀ (w : World), (binOp .eql 40 (.slice none 0 0) (.slice none 0 0)).run Tryd.prog w = .ok (.bool true) w := fun w => Lib.run_eql_slice_nil w _ _ none 0 0 0 0 Tryd.underlying40
    go_enter Tryd.func52, Tryd.ntmps52
    go_wp2_with fail
    exact hend.out
  | some ad =>
    have hb1 : Below w.heap.size w (w.alloc (.cells #[] 61)) := (Below.refl _ _).alloc (Nat.le_refl _) _
    have HO1 := Lib.hid (OwnP.lit2 w)
    have HI1 := Lib.hid (hI.belowAll hb1)
    have HS1 := Lib.hid hb1.size
    have HLn : Hid ((l.length : Int) ≤ 1000000) := Lib.hid (by rw [← hI.len]; omega)
    have HB1 := Lib.hid hb1
    clear hP hb1 hI hnil
    have qn : ∀ (w : World), (binOp .eql 40 (.slice (some ad) n c) (.slice none 0 0)).run Tryd.prog w = .ok (.bool false) w := fun w => Lib.run_eql_slice_nil w _ _ (some ad) n c 0 0 Tryd.underlying40
    go_enter Tryd.func52, Tryd.ntmps52
    go_wp2_with (refine wpList_append_q gluT rfl _ _ rfl rfl w.heap.size _ [] (some ad) n c l rfl rfl HO1.out HI1.out (by simp) HLn.out HS1.out ?_)
    intro v' w' hg
    have HE : Hid (OwnQ .i32 61 w.heap.size v' l w' ∧ Below w.heap.size w w') := Lib.hid ⟨by simpa using hg.own, HB1.out.grown hg.grown HS1.out (fun q hq => (HO1.out.own q hq).1)⟩
    clear hg
    go_wp2
    rw [← HP.out]
    exact ⟨_, rfl, HE.out.1, HE.out.2⟩
theorem bbegun_any {b : Nat} {M N : List Nat} {x : Bk} (w : World) (h : Bo b M N x w) (hx : x.G.length ≤ 1000000) : Calls Tryd.prog 17 #[.pointer (some ⟨b, 0, none⟩)] w (CloPost x.G w) := by
  obtain ⟨vl, vb, us, h⟩ := h
  obtain ⟨a, c, rfl, hP, hnil, -⟩ := h.q.shape
  have c1 := h.c1
  have HC := Lib.hid (clone_pairs a _ c x.G w hP hnil hx)
  obtain ⟨n, hn⟩ : ∃ n, x.G.length = n := ⟨_, rfl⟩
  rw [hn] at c1 HC
  clear h hP hn hnil hx
  go_enter Tryd.func17, Tryd.ntmps17
  go_wp2_with fail
  refine HC.out.mono ?_
  rintro e w2 ⟨v, rfl, h1, h2⟩
  have HE : Hid (OwnQ .i32 61 w.heap.size v x.G w2 ∧ Below w.heap.size w w2) := Lib.hid ⟨h1, h2⟩
  clear h1 h2
  go_wp2_with fail
  go_ret
  exact ⟨_, rfl, HE.out.1, HE.out.2⟩
set_option maxHeartbeats 2000000 in
/-- the i-th line -/
theorem bline_any {b : Nat} {M N : List Nat} {x : Bk} (i : Nat) (l : List (Int × Int)) (w : World) (h : Bo b M N x w) (hi : x.L[i]? = some l) (hl : l.length ≤ 1000000) (hm : x.L.length ≤ 1000000) : Calls Tryd.prog 19 #[.pointer (some ⟨b, 0, none⟩), .int .i64 (i : Int)] w fun e w' => ∃ v, e = .returned (.tuple #[v, .bool true]) ∧ OwnQ .i32 61 w.heap.size v l w' ∧ Below w.heap.size w w' := by
  have HL := Lib.hid (blen_any w h)
  obtain ⟨vl, vb, us, h⟩ := h
  obtain ⟨a, c, rfl, hfc, hct, hat⟩ := h.own.shape
  have c0 := h.c0
  have hln := h.lv.len
  have hil := (List.getElem?_eq_some_iff.1 hi).1
  have hiu : i < us.length := by rw [hln]; exact hil
  rw [hln] at c0 hfc
  obtain ⟨n, hn⟩ : ∃ n, x.L.length = n := ⟨_, rfl⟩
  have HN := Lib.hid hn
  rw [hn] at c0 hfc hil hm
  obtain ⟨P, hP⟩ : ∃ P : Ending → World → Prop, (fun e w' => ∃ v, e = .returned (.tuple #[v, .bool true]) ∧ OwnQ .i32 61 w.heap.size v l w' ∧ Below w.heap.size w w') = P := ⟨_, rfl⟩
  rw [hP]
  have HP := Lib.hid hP
  obtain ⟨g, rfl, hgl, hA⟩ := hat.resolve_left (by intro e; rw [e] at hiu; simp at hiu)
  have hc := (hA i us[i] (List.getElem?_eq_getElem hiu)).1
  obtain ⟨hp, hnil, -⟩ := h.lv.at_ i us[i] l (List.getElem?_eq_getElem hiu) hi
  obtain ⟨⟨ya, yn, yc, ych⟩, hy⟩ : ∃ u, us[i] = u := ⟨_, rfl⟩
  rw [hy] at hc hp hnil
  simp only at hc hp hnil
  rw [show 0 + i * 2 = i * 2 by omega] at hc
  have HC := Lib.hid (clone_pairs ya yn yc l w hp hnil (by rw [hp.len]; exact hl))
  have d1 : decide ((i : Int) < 0) = false := decide_eq_false (by omega)
  have d2 : decide ((i : Int) ≥ n) = false := decide_eq_false (by omega)
  have d3 : decide (i ≥ n) = false := decide_eq_false (by omega)
  have d4 : decide (n ≤ i) = false := decide_eq_false (by omega)
  have hiI : (i : Int) < n := by omega
  clear hP h hln hn hA hp hnil hy hi hl hiu
  go_enter Tryd.func19, Tryd.ntmps19
  go_wp2_with fail
  refine HL.out.mono ?_
  rintro e w2 ⟨rfl, rfl⟩
  rw [HN.out]
  go_wp2_with fail
  refine HC.out.mono ?_
  rintro e w2 ⟨v, rfl, h1, h2⟩
  have HE : Hid (OwnQ .i32 61 w.heap.size v l w2 ∧ Below w.heap.size w w2) := Lib.hid ⟨h1, h2⟩
  clear h1 h2
  have hend : Hid (P (.returned (.tuple #[v, .bool true])) w2) := Lib.hid (by rw [← HP.out]; exact ⟨_, rfl, HE.out.1, HE.out.2⟩)
  go_wp2_with fail
  exact hend.out
set_option maxHeartbeats 2000000 in
theorem bline_none {b : Nat} {M N : List Nat} {x : Bk} (i : Int) (w : World) (h : Bo b M N x w) (hi : i < 0 ∨ x.L.length ≤ i) : Calls Tryd.prog 19 #[.pointer (some ⟨b, 0, none⟩), .int .i64 i] w fun e w' => e = .returned (.tuple #[.slice none 0 0, .bool false]) ∧ w = w' := by
  have HL := Lib.hid (blen_any w h)
  obtain ⟨n, hn⟩ : ∃ n, x.L.length = n := ⟨_, rfl⟩
  rw [hn] at HL hi
  clear hn h
  rcases hi with hi | hi
  · have d1 : decide (i < 0) = true := decide_eq_true hi
    go_enter Tryd.func19, Tryd.ntmps19
    go_wp2_with fail
    refine bodyPost_ret (results_tmp2 rfl _ _ _) rfl ?_
    exact ⟨rfl, rfl⟩
  · have d1 : decide (i < 0) = false := decide_eq_false (by omega)
    have d2 : decide (i ≥ (n : Int)) = true := decide_eq_true hi
    have d3 : decide ((n : Int) ≤ i) = true := decide_eq_true hi
    clear hi
    go_enter Tryd.func19, Tryd.ntmps19
    go_wp2_with fail
    refine HL.out.mono ?_
    rintro e w2 ⟨rfl, rfl⟩
    go_wp2_with fail
    exact bodyPost_ret (a := { tmps := _, defers := [] }) (results_tmp2 rfl _ _ _) rfl ⟨rfl, rfl⟩
set_option maxHeartbeats 4000000 in
theorem chained_any (ch : Nat) (hch : ch < 281474976710597) (a : Option Addr) (n c : Nat) (l : List (Int × Int)) (w : World) (hI : PairsIn .i32 a n c l w) (hr : RngG l) (hn : n ≤ 1024) (hT : S.Tab w) :
    Calls Tryd.prog 87 #[.int .i64 (ch : Int), .slice a n c] w fun e w' => e = .returned (.int .i64 (nextC ch l : Nat)) ∧ Below w.heap.size w w' := by
  have HPk := Lib.hid (pack_any a n c l w hI hr hn)
  have HT := Lib.hid hT
  obtain ⟨P, hP⟩ : ∃ P : Ending → World → Prop, (fun e w' => e = .returned (.int .i64 (nextC ch l : Nat)) ∧ Below w.heap.size w w') = P := ⟨_, rfl⟩
  rw [hP]
  have HP := Lib.hid hP
  obtain ⟨md, hmd⟩ : ∃ md, ch * 65536 % 281474976710597 = md := ⟨_, rfl⟩
  have hmlt : md < 281474976710597 := by rw [← hmd]; exact Nat.mod_lt _ (by decide)
  have HMd := Lib.hid hmd
  have HLn : Hid (l.length ≤ 1024) := Lib.hid (by rw [← hI.len]; exact hn)
  clear hP hI hT hmd
  go_enter Tryd.func87, Tryd.ntmps87
  go_wp2_with fail
  rw [show ((ch : Int) * 65536 % 281474976710597) = (md : Int) by have := HMd.out; omega]
  refine HPk.out.mono ?_
  rintro e w2 ⟨t, rfl, ht, hb2⟩
  obtain ⟨rb, hrb⟩ : ∃ rb, w2.heap.size = rb := ⟨_, rfl⟩
  obtain ⟨w3, hw3⟩ : ∃ w3, w2.alloc (.cells #[.string t] 9) = w3 := ⟨_, rfl⟩
  have hb3 : Below w2.heap.size w2 w3 := by rw [← hw3]; exact (Below.refl _ _).alloc (Nat.le_refl _) _
  have hc3 : w3.cell? ⟨rb, 0, none⟩ = some (.string t) := by rw [← hw3, ← hrb, World.cell?_alloc_new]; rfl
  have htn : (t.size : Int) ≤ 9223372036854775807 := by
    have h1 : t.size = (packG l).length := by rw [← ht]; rfl
    have h2 := packG_len l
    have h3 := hn
    have h4 : l.length ≤ 1024 := HLn.out
    omega
  have HOf := Lib.hid (S.of_one t rb 1 w3 hc3 htn (S.tab_of (S.tab_of HT.out hb2) hb3))
  rw [ht] at HOf
  obtain ⟨sm, hsm⟩ : ∃ sm, S.sumOf (packG l) = sm := ⟨_, rfl⟩
  have hsl : (sm : Int) < 4294967296 := by have := S.sumOf_lt (packG l); rw [hsm] at this; omega
  rw [hsm] at HOf
  have hend : Hid (P (.returned (.int .i64 (((md : Int) + sm) % 281474976710597))) w3) := Lib.hid (by
    rw [← HP.out]
    refine ⟨?_, hb2.trans (hb3.mono hb2.size)⟩
    unfold nextC
    rw [HMd.out, hsm]
    congr 2)
  have HW3 := Lib.hid hw3
  have HRb := Lib.hid hrb
  clear ht hb2 hrb hw3 hb3 hc3 htn hsm
  go_wp2_with fail
  rw [HW3.out, HRb.out]
  refine HOf.out.mono ?_
  rintro e w4 ⟨rfl, rfl⟩
  go_wp2_with fail
  exact hend.out
end Go.Proofs.YtkggmcnocpgnbaaDoor.K
