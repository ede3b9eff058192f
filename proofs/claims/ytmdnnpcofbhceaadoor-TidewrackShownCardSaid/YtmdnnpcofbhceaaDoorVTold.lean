/- The contracts of the statements' Told and Any. -/
import Derived.Test.YtmdnnpcofbhceaaDoorVIs
namespace Go.Proofs.YtmdnnpcofbhceaaDoor.K
open Go.RowKit

theorem RoB.set0 {t : TypeId} {p : Nat} {v v' : Value} {b : Bool} {w : World} (h : RoB t p v b w) : RoB t p v' b (w.setCell ⟨p, 0, none⟩ v') := by
  unfold RoB at h ⊢
  simp [World.setCell, Array.getElem?_modify, h]
theorem RoB.setOther {t : TypeId} {p q : Nat} {v x : Value} {b : Bool} {w : World} {o : Nat} (h : RoB t p v b w) (hne : p ≠ q) : RoB t p v b (w.setCell ⟨q, o, none⟩ x) := (Below.heap_setCell _ _ _ p (fun e => hne e)).trans h
theorem OwnC.set1 {rk : IntKind} {T : TypeId} {base : Nat} {v : Value} {l : List Cel} {w : World} (h : OwnC rk T base v l w) {p : Nat} (hp : p < base) (o : Nat) (x : Value) : OwnC rk T base v l (w.setCell ⟨p, o, none⟩ x) := by
  have g1 : w.grownBy (w.setCell ⟨p, o, none⟩ x) (some p) := ⟨rfl, rfl, rfl, (KeepsWalks.setCell w _ x).size, fun i _ hi => Below.heap_setCell _ _ _ i (fun e => hi (by rw [e]))⟩
  exact h.kept g1 (fun q hq e => by have := (h.ownBlock q hq).1; have := Option.some.inj e; omega)
/-- what Told has laid -/
structure ToldI (rb : Nat) (v0 v : Value) (b : Bool) (l : List Cel) (w wr : World) : Prop where
  below : Below rb w wr
  r : RoB 26 rb v0 b wr
  q : RoB 30 (rb + 1) (.slice none 0 0) false wr
  x : RoB 30 (rb + 2) v b wr
  own : OwnC .i64 87 (rb + 3) v l wr
theorem ToldI.size {rb : Nat} {v0 v : Value} {b : Bool} {l : List Cel} {w wr : World} (h : ToldI rb v0 v b l w wr) : rb + 3 ≤ wr.heap.size := h.x.lt
theorem ToldI.more {rb : Nat} {v0 v : Value} {b : Bool} {l : List Cel} {w wr w' : World} (h : ToldI rb v0 v b l w wr) (hb : Below wr.heap.size wr w') : ToldI rb v0 v b l w w' :=
  ⟨h.below.trans (hb.mono (by have := h.size; omega)), h.r.belowAll hb, h.q.belowAll hb, h.x.belowAll hb, h.own.belowAll hb⟩
theorem ToldI.next {rb : Nat} {v0 v v' : Value} {b : Bool} {l l' : List Cel} {w wr w' : World} (h : ToldI rb v0 v b l w wr) (hb : Below (rb + 3) wr w') (ho : OwnC .i64 87 (rb + 3) v' l' w') : ToldI rb v0 v' b l' w (w'.setCell ⟨rb + 2, 0, none⟩ v') := by
  have hb' : Below rb w w' := h.below.trans (hb.mono (by omega))
  exact ⟨hb'.setCell (p := ⟨rb + 2, 0, none⟩) (by show rb ≤ rb + 2; omega) _, (h.r.below hb (by omega)).setOther (by omega), (h.q.below hb (by omega)).setOther (by omega), (h.x.below hb (by omega)).set0, ho.set1 (by omega) _ _⟩

set_option maxRecDepth 100000 in
set_option maxHeartbeats 8000000 in
theorem told_any (a : Option Addr) (n c : Nat) (wr0 : Bool) (l : List Cel) (w : World) (hI : CelsIn .i32 a n l w) (hr : AllC Rng l) (hn : (n : Int) ≤ 1000000) :
    Calls Tryd.prog 20 #[.agg #[.slice a n c, .bool wr0]] w (RowPost .i64 87 w.heap.size l wr0 w) := by
  obtain ⟨rb, hrb⟩ : ∃ rb, w.heap.size = rb := ⟨_, rfl⟩
  rw [hrb]
  obtain ⟨P, hP⟩ : ∃ P, RowPost .i64 87 rb l wr0 w = P := ⟨_, rfl⟩
  rw [hP]
  have HP := Lib.hid hP
  have hln := hI.len
  have hst := St0.start 26 30 w (.slice a n c) wr0
  obtain ⟨w2, hw2⟩ : ∃ w2, (w.alloc (.cells #[.slice a n c, .bool wr0] 26)).alloc (.cells #[.slice none 0 0, .bool false] 30) = w2 := ⟨_, rfl⟩
  rw [hw2, hrb] at hst
  have hsz2 : w2.heap.size = rb + 2 := by rw [← hw2, World.size_alloc, World.size_alloc, hrb]
  obtain ⟨w3, hw3⟩ : ∃ w3, w2.alloc (.cells #[.slice none 0 0, .bool wr0] 30) = w3 := ⟨_, rfl⟩
  have ht3 : ToldI rb (.slice a n c) (.slice none 0 0) wr0 [] w w3 := by
    have hb3 : Below w2.heap.size w2 w3 := by rw [← hw3]; exact (Below.refl _ _).alloc (Nat.le_refl _) _
    have hx := RoB.new 30 w2 (.slice none 0 0) wr0
    rw [hw3, hsz2] at hx
    exact ⟨hst.below.trans (hb3.mono (by omega)), hst.r.belowAll hb3, hst.q.belowAll hb3, hx, OwnC.nil _ _ _ _⟩
  have c1 := hst.r.c1
  have c0 := ht3.r.c0
  have HI := Lib.hid hI
  have HLn := Lib.hid hln
  have HRg := Lib.hid hr
  have HW2 := Lib.hid hw2
  have HW3 := Lib.hid hw3
  have HRb := Lib.hid hrb
  have HSz2 := Lib.hid hsz2
  have HT3 := Lib.hid ht3
  clear hP hI hr hln hst hw2 hw3 hrb hsz2 ht3
  go_enter Tryd.func20, Tryd.ntmps20
  go_upto_region 1 with fail
  rw [HW2.out, HRb.out]
  go_upto_region 2 with fail
  rw [HW3.out, HSz2.out]
  go_wp2_with fail
  clear c0 c1
  go_loopw [12] (fun i wr => ∃ j : Nat, i = .int .i64 (j : Int) ∧ j ≤ n ∧ Hid (∃ v, ToldI rb (.slice a n c) v wr0 (l.take j) w wr)) (fun i _ => n - (intOf i).toNat)
  case atStart => exact ⟨0, rfl, by omega, Lib.hid ⟨_, by rw [List.take_zero]; exact HT3.out⟩⟩
  case round =>
    obtain ⟨j, rfl, hj, HF⟩ := hrel
    by_cases hlt : j < n
    · have hd : decide (j < n) = true := by simp; omega
      have hjl : j < l.length := by rw [← HLn.out]; exact hlt
      obtain ⟨v, hv⟩ := HF.out
      obtain ⟨b, o, rfl, hb, hA⟩ := HI.out.at_.resolve_left (by intro e; rw [e] at hjl; simp at hjl)
      rw [HRb.out] at hb
      have hat := (hA j l[j] (List.getElem?_eq_getElem hjl)).block (hv.below.block b hb)
      have hsn := take_snoc1 l j hjl
      have hrg := HRg.out l[j] (List.getElem_mem hjl)
      obtain ⟨k, hk⟩ : ∃ k, l[j] = k := ⟨_, rfl⟩
      rw [hk] at hat hsn hrg
      obtain ⟨x, s, t⟩ := k
      have hwr : IntKind.i64.wrap x = x := by rw [IntKind.wrap_i64]; have h1 := hrg.1; have h2 := hrg.2; simp only at h1 h2; omega
      have x0 := hat.c0
      have x1 := hat.c1
      have x2 := hat.c2
      simp only at x0 x1 x2
      obtain ⟨nb, hnb⟩ : ∃ nb, wr.heap.size = nb := ⟨_, rfl⟩
      obtain ⟨w5, hw5⟩ : ∃ w5, wr.alloc (.cells #[.int .i32 x, .int .i64 s, .int .i64 t] 82) = w5 := ⟨_, rfl⟩
      have hblk5 : w5.heap[nb]? = some (.cells #[.int .i32 x, .int .i64 s, .int .i64 t] 82 (0, 0)) := by rw [← hw5, ← hnb]; exact World.alloc_heap_new _ _
      have hb5 : Below wr.heap.size wr w5 := by rw [← hw5]; exact (Below.refl _ _).alloc (Nat.le_refl _) _
      have e0 : w5.cell? ⟨nb, 0, none⟩ = some (.int .i32 x) := by simp [World.cell?, hblk5]
      have e1 : w5.cell? ⟨nb, 1, none⟩ = some (.int .i64 s) := by simp [World.cell?, hblk5]
      have e2 : w5.cell? ⟨nb, 2, none⟩ = some (.int .i64 t) := by simp [World.cell?, hblk5]
      have HV5 := Lib.hid (hv.more hb5)
      obtain ⟨a8, c8, he8, -⟩ := hv.own.shape
      obtain ⟨n8, hn8⟩ : ∃ n8, (l.take j).length = n8 := ⟨_, rfl⟩
      rw [hn8] at he8
      subst he8
      have e3 := HV5.out.x.c0
      have HO5 := Lib.hid HV5.out.own
      have HLen : Hid (((l.take j).length : Int) ≤ 1000000) := Lib.hid (by rw [List.length_take]; have := HLn.out; omega)
      have HS5 : Hid (rb + 3 ≤ w5.heap.size) := Lib.hid HV5.out.size
      have HSn := Lib.hid hsn
      have HW5 := Lib.hid hw5
      have HNb := Lib.hid hnb
      have hjn : (j : Int) < n := by omega
      clear hv hA hat hsn hrg hk hw5 hnb hblk5 hb5 hb hn8
      go_upto_region 5 with fail
      rw [HW5.out, HNb.out]
      clear x0 x1 x2
      go_wp2_with (refine wpList_add_cell refT (rb + 3) _ (l.take j) ⟨x, s, t⟩ rfl rfl rfl HO5.out HLen.out HS5.out ?_)
      intro v' w' hown hbel hlw'
      obtain ⟨a9, c9, he9, -⟩ := hown.shape
      obtain ⟨n9, hn9⟩ : ∃ n9, (l.take j ++ [(⟨x, s, t⟩ : Cel)]).length = n9 := ⟨_, rfl⟩
      rw [hn9] at he9
      subst he9
      have hbw : Below (rb + 3) w5 w' := hbel w5 (Below.refl _ _)
      have HV' : Hid (ToldI rb (.slice (some ⟨b, o, none⟩) n c) (.slice a9 n9 c9) wr0 (l.take (j + 1)) w (w'.setCell ⟨rb + 2, 0, none⟩ (.slice a9 n9 c9))) := Lib.hid (HV5.out.next hbw (by rw [HSn.out]; exact hown))
      have hx := HV5.out.x.below hbw (by omega)
      have x0 := hx.c0
      have f0 := hx.fr 0
      clear hown hbel hbw hx e0 e1 e2 e3 hn9
      go_wp2
      go_roundw
      case rel => exact ⟨j + 1, by go_num, by omega, Lib.hid ⟨_, HV'.out⟩⟩
      case measure => simp [intOf]; omega
    · obtain rfl : j = n := by omega
      have hd : decide ((j : Int) < (j : Int)) = false := by simp
      obtain ⟨v, hv⟩ := HF.out
      have hfin : l.take j = l := List.take_of_length_le (Nat.le_of_eq HLn.out.symm)
      rw [hfin] at hv
      obtain ⟨a9, c9, he9, -⟩ := hv.own.shape
      obtain ⟨n9, hn9⟩ : ∃ n9, l.length = n9 := ⟨_, rfl⟩
      rw [hn9] at he9
      subst he9
      have HV := Lib.hid hv
      have y0 := hv.x.c0
      have y1 := hv.x.c1
      have x0 := hv.q.c0
      have x1 := hv.q.c1
      have f0 := hv.q.fr 0
      have f1 := hv.q.fr 1
      clear hv hfin hn9
      go_wp2_with fail
      refine bodyPost_ret (v := .agg #[.slice a9 n9 c9, .bool wr0]) (by rw [results_cell (fn := Tryd.f20) rfl]; go_simp <;> rfl) rfl ?_
      rw [← HP.out]
      exact ⟨_, rfl, (HV.out.own.set2 (by omega : rb + 1 < rb + 3) _ _).weaken (by omega), below_set2 HV.out.below (by omega)⟩

set_option maxRecDepth 100000 in
set_option maxHeartbeats 8000000 in
theorem any_any (a : Option Addr) (n c : Nat) (wr0 : Bool) (l : List Cel) (w : World) (hI : CelsIn .i32 a n l w) (hnil : a = none → c = 0) (hcap : n ≤ c) (hmx : (c : Int) ≤ 9223372036854775807) :
    Calls Tryd.prog 19 #[.slice a n c, .bool wr0] w (RowPost .i32 82 w.heap.size (l.take 40) wr0 w) := by
  obtain ⟨rb, hrb⟩ : ∃ rb, w.heap.size = rb := ⟨_, rfl⟩
  rw [hrb]
  obtain ⟨P, hP⟩ : ∃ P, RowPost .i32 82 rb (l.take 40) wr0 w = P := ⟨_, rfl⟩
  rw [hP]
  have HP := Lib.hid hP
  have hln := hI.len
  obtain ⟨M, hM⟩ : ∃ M : Nat, min (n : Int) 40 = (M : Int) := ⟨min n 40, by omega⟩
  have hMn : M ≤ n := by omega
  have hMc : (M : Int) ≤ c := by omega
  have hlt : l.take M = l.take 40 := by
    rcases Nat.le_total l.length 40 with h | h
    · rw [List.take_of_length_le (by omega), List.take_of_length_le h]
    · congr 1; omega
  have hM40 : M ≤ 40 := by omega
  obtain ⟨w1, hw1⟩ : ∃ w1, w.alloc (.cells #[.slice none 0 0, .bool false] 26) = w1 := ⟨_, rfl⟩
  have hb1 : Below rb w w1 := by rw [← hw1, ← hrb]; exact (Below.refl _ _).alloc (Nat.le_refl _) _
  have hr1 : RoB 26 rb (.slice none 0 0) false w1 := by rw [← hw1, ← hrb]; exact RoB.new _ _ _ _
  have hs1 : rb + 1 ≤ w1.heap.size := hr1.lt
  have HO2 := Lib.hid (OwnC.lit .i32 82 w1 (rb + 1) hs1)
  have hb12 : Below w1.heap.size w1 (w1.alloc (.cells #[] 82)) := (Below.refl _ _).alloc (Nat.le_refl _) _
  have HI2 : Hid (CelsIn .i32 a M (l.take 40) (w1.alloc (.cells #[] 82))) := Lib.hid (by
    have h := ((hI.belowAll (by rw [hrb]; exact hb1)).belowAll hb12).take hMn
    rw [hlt] at h
    exact h)
  have HLz : Hid (((l.take 40).length : Int) ≤ 1000000) := Lib.hid (by rw [List.length_take]; omega)
  have HNil := Lib.hid hnil
  have HB1 := Lib.hid hb1
  have HR1 := Lib.hid hr1
  have HW1 := Lib.hid hw1
  have HRb := Lib.hid hrb
  have HS1 := Lib.hid hs1
  have HS2 : Hid (rb + 1 ≤ (w1.alloc (.cells #[] 82)).heap.size) := Lib.hid (by simp; omega)
  clear hP hI hln hnil hlt hb1 hr1 hw1 hrb hs1 hb12
  go_enter Tryd.func19, Tryd.ntmps19
  go_upto_region 1 with fail
  rw [HW1.out, HRb.out]
  go_wp2_with (at_builtin; refine wpList_append_cells rowT rfl _ _ rfl rfl (rb + 1) _ [] a M c (l.take 40) rfl rfl HO2.out HI2.out HNil.out (by simp) HLz.out HS2.out ?_)
  intro v5 w5 hown hgr
  have hb5 : Below (rb + 1) w1 w5 := below_grew ((Below.refl _ _).alloc HS1.out _) hgr (fun q hq => by have := (HO2.out.ownBlock q hq).1; omega) HS2.out
  obtain ⟨a9, c9, he9, -⟩ := hown.shape
  obtain ⟨n9, hn9⟩ : ∃ n9, (l.take 40).length = n9 := ⟨_, rfl⟩
  rw [hn9] at he9
  subst he9
  have hq := HR1.out.below hb5 (Nat.lt_succ_self rb)
  have HO9 : Hid (OwnC .i32 82 (rb + 1) (.slice a9 n9 c9) (l.take 40) w5) := Lib.hid hown
  have HB9 : Hid (Below rb w w5) := Lib.hid (HB1.out.trans (hb5.mono (by omega)))
  have x0 := hq.c0
  have x1 := hq.c1
  have f0 := hq.fr 0
  have f1 := hq.fr 1
  clear hown hgr hb5 hn9 hq
  go_wp2_with fail
  refine bodyPost_ret (v := .agg #[.slice a9 n9 c9, .bool wr0]) (by rw [results_cell (fn := Tryd.f19) rfl]; go_simp <;> rfl) rfl ?_
  rw [← HP.out]
  exact ⟨_, rfl, (HO9.out.set2 (Nat.lt_succ_self rb) _ _).weaken (by omega), below_set2 HB9.out (Nat.le_refl _)⟩
end Go.Proofs.YtmdnnpcofbhceaaDoor.K
