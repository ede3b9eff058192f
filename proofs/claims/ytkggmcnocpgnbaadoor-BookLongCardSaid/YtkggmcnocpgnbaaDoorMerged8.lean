/- What is true of all cells stays true of what the calls make; rows that are bounded. -/
import Derived.Test.YtkggmcnocpgnbaaDoorMerged0
import Derived.Test.YtkggmcnocpgnbaaDoorMerged6
import Derived.Lib.QuietBelow
import Derived.BigQuiet
import Derived.Test.YtkggmcnocpgnbaaDoorMerged3
import Derived.Deep.DeepCutAuto
namespace Go.Proofs.YtkggmcnocpgnbaaDoor.K

def AllC (p : Cel → Prop) (l : List Cel) : Prop := ∀ c ∈ l, p c
section
variable {p : Cel → Prop}
theorem all_blanks (hb : ∀ s, p (blk s)) (n : Nat) (s : Int) : AllC p (blanks n s) := fun c hc => by rw [(List.mem_replicate.1 hc).2]; exact hb s
end
/-- a rune is one of 32 bits -/
def Rng (c : Cel) : Prop := -2147483648 ≤ c.rune ∧ c.rune ≤ 2147483647
theorem rng_blk (s : Int) : Rng (blk s) := ⟨by show (-2147483648 : Int) ≤ 32; decide, by show (32 : Int) ≤ 2147483647; decide⟩
/-- an act of the statements -/
structure ActR where
  kind : Int
  at_ : Int
  n : Int
  style : Int
  rune : Int
/-- the width that is asked for -/
def wideN (n : Int) : Int := if 60 < n ∧ n < 1000 then 60 else n
/-- what an act makes; 'of' says how many columns a rune has -/
def doS (of : Int → Nat) (r : Ro) (a : ActR) : Ro :=
  if a.kind = 0 then ⟨putS (of a.rune) r.l a.at_ a.rune a.style, false⟩
  else if a.kind = 1 then ⟨eraseS r.l a.at_ a.n a.style, false⟩
  else if a.kind = 2 then ⟨insertS r.l a.at_ a.n a.style, false⟩
  else if a.kind = 3 then ⟨deleteS r.l a.at_ a.n a.style, false⟩
  else if a.kind = 4 then ⟨fillS r.l a.style, true⟩
  else resizeS r (wideN a.n)
end Go.Proofs.YtkggmcnocpgnbaaDoor.K

/- The contract of the statements' Is: a row of the program's and one of the document's. -/
namespace Go.Proofs.YtkggmcnocpgnbaaDoor.K
open Go.RowKit

theorem take_snoc1 {α : Type} (l : List α) (j : Nat) (h : j < l.length) : l.take (j + 1) = l.take j ++ [l[j]] := by
  rw [List.take_add_one, List.getElem?_eq_getElem h]; rfl
end Go.Proofs.YtkggmcnocpgnbaaDoor.K

/- The contracts of the statements' Told and Any. -/
namespace Go.Proofs.YtkggmcnocpgnbaaDoor.K
open Go.RowKit

theorem RoB.set0 {t : TypeId} {p : Nat} {v v' : Value} {b : Bool} {w : World} (h : RoB t p v b w) : RoB t p v' b (w.setCell ⟨p, 0, none⟩ v') := by
  unfold RoB at h ⊢
  simp [World.setCell, Array.getElem?_modify, h]
theorem RoB.setOther {t : TypeId} {p q : Nat} {v x : Value} {b : Bool} {w : World} {o : Nat} (h : RoB t p v b w) (hne : p ≠ q) : RoB t p v b (w.setCell ⟨q, o, none⟩ x) := (Below.heap_setCell _ _ _ p (fun e => hne e)).trans h
theorem OwnC.set1 {rk : IntKind} {T : TypeId} {base : Nat} {v : Value} {l : List Cel} {w : World} (h : OwnC rk T base v l w) {p : Nat} (hp : p < base) (o : Nat) (x : Value) : OwnC rk T base v l (w.setCell ⟨p, o, none⟩ x) := by
  have g1 : w.grownBy (w.setCell ⟨p, o, none⟩ x) (some p) := ⟨rfl, rfl, rfl, (KeepsWalks.setCell w _ x).size, fun i _ hi => Below.heap_setCell _ _ _ i (fun e => hi (by rw [e]))⟩
  exact h.kept g1 (fun q hq e => by have := (h.ownBlock q hq).1; have := Option.some.inj e; omega)
/-- what Told has laid -/
structure ToldI (rb : Nat) (v0 v : Value) (b : Bool) (l : List Cel) (w wr : World) : Prop where
  below : Below rb w wr
  r : RoB 27 rb v0 b wr
  q : RoB 38 (rb + 1) (.slice none 0 0) false wr
  x : RoB 38 (rb + 2) v b wr
  own : OwnC .i64 107 (rb + 3) v l wr
theorem ToldI.size {rb : Nat} {v0 v : Value} {b : Bool} {l : List Cel} {w wr : World} (h : ToldI rb v0 v b l w wr) : rb + 3 ≤ wr.heap.size := h.x.lt
theorem ToldI.more {rb : Nat} {v0 v : Value} {b : Bool} {l : List Cel} {w wr w' : World} (h : ToldI rb v0 v b l w wr) (hb : Below wr.heap.size wr w') : ToldI rb v0 v b l w w' :=
  ⟨h.below.trans (hb.mono (by have := h.size; omega)), h.r.belowAll hb, h.q.belowAll hb, h.x.belowAll hb, h.own.belowAll hb⟩
theorem ToldI.next {rb : Nat} {v0 v v' : Value} {b : Bool} {l l' : List Cel} {w wr w' : World} (h : ToldI rb v0 v b l w wr) (hb : Below (rb + 3) wr w') (ho : OwnC .i64 107 (rb + 3) v' l' w') : ToldI rb v0 v' b l' w (w'.setCell ⟨rb + 2, 0, none⟩ v') := by
  have hb' : Below rb w w' := h.below.trans (hb.mono (by omega))
  exact ⟨hb'.setCell (p := ⟨rb + 2, 0, none⟩) (by show rb ≤ rb + 2; omega) _, (h.r.below hb (by omega)).setOther (by omega), (h.q.below hb (by omega)).setOther (by omega), (h.x.below hb (by omega)).set0, ho.set1 (by omega) _ _⟩

set_option maxRecDepth 100000 in
set_option maxHeartbeats 8000000 in
theorem told_any (a : Option Addr) (n c : Nat) (wr0 : Bool) (l : List Cel) (w : World) (hI : CelsIn .i32 a n l w) (hr : AllC Rng l) (hn : (n : Int) ≤ 1000000) :
    Calls Tryd.prog 16 #[.agg #[.slice a n c, .bool wr0]] w (RowPost .i64 107 w.heap.size l wr0 w) := by
  obtain ⟨rb, hrb⟩ : ∃ rb, w.heap.size = rb := ⟨_, rfl⟩
  rw [hrb]
  obtain ⟨P, hP⟩ : ∃ P, RowPost .i64 107 rb l wr0 w = P := ⟨_, rfl⟩
  rw [hP]
  have HP := Lib.hid hP
  have hln := hI.len
  have hst := St0.start 27 38 w (.slice a n c) wr0
  obtain ⟨w2, hw2⟩ : ∃ w2, (w.alloc (.cells #[.slice a n c, .bool wr0] 27)).alloc (.cells #[.slice none 0 0, .bool false] 38) = w2 := ⟨_, rfl⟩
  rw [hw2, hrb] at hst
  have hsz2 : w2.heap.size = rb + 2 := by rw [← hw2, World.size_alloc, World.size_alloc, hrb]
  obtain ⟨w3, hw3⟩ : ∃ w3, w2.alloc (.cells #[.slice none 0 0, .bool wr0] 38) = w3 := ⟨_, rfl⟩
  have ht3 : ToldI rb (.slice a n c) (.slice none 0 0) wr0 [] w w3 := by
    have hb3 : Below w2.heap.size w2 w3 := by rw [← hw3]; exact (Below.refl _ _).alloc (Nat.le_refl _) _
    have hx := RoB.new 38 w2 (.slice none 0 0) wr0
    rw [hw3, hsz2] at hx
    exact ⟨hst.below.trans (hb3.mono (by omega)), hst.r.belowAll hb3, hst.q.belowAll hb3, hx, OwnC.nil _ _ _ _⟩
  have c1 := hst.r.c1
  have c0 := ht3.r.c0
  have HI := Lib.hid hI
  have HLn := Lib.hid hln
  have HRg := Lib.hid hr
  have HW2 := Lib.hid hw2
  have HW3 := Lib.hid hw3
  have HRb := Lib.hid hrb
  have HSz2 := Lib.hid hsz2
  have HT3 := Lib.hid ht3
  clear hP hI hr hln hst hw2 hw3 hrb hsz2 ht3
  go_enter Tryd.func16, Tryd.ntmps16
  go_upto_region 1 with fail
  rw [HW2.out, HRb.out]
  go_upto_region 2 with fail
  rw [HW3.out, HSz2.out]
  go_wp2_with fail
  clear c0 c1
  go_loopw [12] (fun i wr => ∃ j : Nat, i = .int .i64 (j : Int) ∧ j ≤ n ∧ Hid (∃ v, ToldI rb (.slice a n c) v wr0 (l.take j) w wr)) (fun i _ => n - (intOf i).toNat)
  case atStart => exact ⟨0, rfl, by omega, Lib.hid ⟨_, by rw [List.take_zero]; exact HT3.out⟩⟩
  case round =>
    obtain ⟨j, rfl, hj, HF⟩ := hrel
    by_cases hlt : j < n
    · have hd : decide (j < n) = true := by simp; omega
      have hjl : j < l.length := by rw [← HLn.out]; exact hlt
      obtain ⟨v, hv⟩ := HF.out
      obtain ⟨b, o, rfl, hb, hA⟩ := HI.out.at_.resolve_left (by intro e; rw [e] at hjl; simp at hjl)
      rw [HRb.out] at hb
      have hat := (hA j l[j] (List.getElem?_eq_getElem hjl)).block (hv.below.block b hb)
      have hsn := take_snoc1 l j hjl
      have hrg := HRg.out l[j] (List.getElem_mem hjl)
      obtain ⟨k, hk⟩ : ∃ k, l[j] = k := ⟨_, rfl⟩
      rw [hk] at hat hsn hrg
      obtain ⟨x, s, t⟩ := k
      have hwr : IntKind.i64.wrap x = x := by rw [IntKind.wrap_i64]; have h1 := hrg.1; have h2 := hrg.2; simp only at h1 h2; omega
      have x0 := hat.c0
      have x1 := hat.c1
      have x2 := hat.c2
      simp only at x0 x1 x2
      obtain ⟨nb, hnb⟩ : ∃ nb, wr.heap.size = nb := ⟨_, rfl⟩
      obtain ⟨w5, hw5⟩ : ∃ w5, wr.alloc (.cells #[.int .i32 x, .int .i64 s, .int .i64 t] 105) = w5 := ⟨_, rfl⟩
      have hblk5 : w5.heap[nb]? = some (.cells #[.int .i32 x, .int .i64 s, .int .i64 t] 105 (0, 0)) := by rw [← hw5, ← hnb]; exact World.alloc_heap_new _ _
      have hb5 : Below wr.heap.size wr w5 := by rw [← hw5]; exact (Below.refl _ _).alloc (Nat.le_refl _) _
      have e0 : w5.cell? ⟨nb, 0, none⟩ = some (.int .i32 x) := by simp [World.cell?, hblk5]
      have e1 : w5.cell? ⟨nb, 1, none⟩ = some (.int .i64 s) := by simp [World.cell?, hblk5]
      have e2 : w5.cell? ⟨nb, 2, none⟩ = some (.int .i64 t) := by simp [World.cell?, hblk5]
      have HV5 := Lib.hid (hv.more hb5)
      obtain ⟨a8, c8, he8, -⟩ := hv.own.shape
      obtain ⟨n8, hn8⟩ : ∃ n8, (l.take j).length = n8 := ⟨_, rfl⟩
      rw [hn8] at he8
      subst he8
      have e3 := HV5.out.x.c0
      have HO5 := Lib.hid HV5.out.own
      have HLen : Hid (((l.take j).length : Int) ≤ 1000000) := Lib.hid (by rw [List.length_take]; have := HLn.out; omega)
      have HS5 : Hid (rb + 3 ≤ w5.heap.size) := Lib.hid HV5.out.size
      have HSn := Lib.hid hsn
      have HW5 := Lib.hid hw5
      have HNb := Lib.hid hnb
      have hjn : (j : Int) < n := by omega
      clear hv hA hat hsn hrg hk hw5 hnb hblk5 hb5 hb hn8
      go_upto_region 5 with fail
      rw [HW5.out, HNb.out]
      clear x0 x1 x2
      go_wp2_with (refine wpList_add_cell refT (rb + 3) _ (l.take j) ⟨x, s, t⟩ rfl rfl rfl HO5.out HLen.out HS5.out ?_)
      intro v' w' hown hbel hlw'
      obtain ⟨a9, c9, he9, -⟩ := hown.shape
      obtain ⟨n9, hn9⟩ : ∃ n9, (l.take j ++ [(⟨x, s, t⟩ : Cel)]).length = n9 := ⟨_, rfl⟩
      rw [hn9] at he9
      subst he9
      have hbw : Below (rb + 3) w5 w' := hbel w5 (Below.refl _ _)
      have HV' : Hid (ToldI rb (.slice (some ⟨b, o, none⟩) n c) (.slice a9 n9 c9) wr0 (l.take (j + 1)) w (w'.setCell ⟨rb + 2, 0, none⟩ (.slice a9 n9 c9))) := Lib.hid (HV5.out.next hbw (by rw [HSn.out]; exact hown))
      have hx := HV5.out.x.below hbw (by omega)
      have x0 := hx.c0
      have f0 := hx.fr 0
      clear hown hbel hbw hx e0 e1 e2 e3 hn9
      go_wp2
      go_roundw
      case rel => exact ⟨j + 1, by go_num, by omega, Lib.hid ⟨_, HV'.out⟩⟩
      case measure => simp [intOf]; omega
    · obtain rfl : j = n := by omega
      have hd : decide ((j : Int) < (j : Int)) = false := by simp
      obtain ⟨v, hv⟩ := HF.out
      have hfin : l.take j = l := List.take_of_length_le (Nat.le_of_eq HLn.out.symm)
      rw [hfin] at hv
      obtain ⟨a9, c9, he9, -⟩ := hv.own.shape
      obtain ⟨n9, hn9⟩ : ∃ n9, l.length = n9 := ⟨_, rfl⟩
      rw [hn9] at he9
      subst he9
      have HV := Lib.hid hv
      have y0 := hv.x.c0
      have y1 := hv.x.c1
      have x0 := hv.q.c0
      have x1 := hv.q.c1
      have f0 := hv.q.fr 0
      have f1 := hv.q.fr 1
      clear hv hfin hn9
      go_wp2_with fail
      refine bodyPost_ret (v := .agg #[.slice a9 n9 c9, .bool wr0]) (by rw [results_cell (fn := Tryd.f16) rfl]; go_simp <;> rfl) rfl ?_
      rw [← HP.out]
      exact ⟨_, rfl, (HV.out.own.set2 (by omega : rb + 1 < rb + 3) _ _).weaken (by omega), below_set2 HV.out.below (by omega)⟩

end Go.Proofs.YtkggmcnocpgnbaaDoor.K

/- The contract of the document's own Of: of any number, how many columns it has. -/
namespace Go.Proofs.YtkggmcnocpgnbaaDoor.W
open Go.RowKit

/-- The cells of block b hold these spans. -/
def Sp (w : World) (b : Nat) (t : List (Int × Int)) : Prop := ∀ j, j < t.length → w.cell? ⟨b, j * 2, none⟩ = some (.int .i64 (t.getD j (0, 0)).1) ∧ w.cell? ⟨b, j * 2 + 1, none⟩ = some (.int .i64 (t.getD j (0, 0)).2)
theorem Sp.below {w w' : World} {b B : Nat} {t : List (Int × Int)} (h : Sp w b t) (hb : Below B w w') (hlt : b < B) : Sp w' b t := fun j hj =>
  ⟨(hb.cell (p := ⟨b, j * 2, none⟩) hlt).trans (h j hj).1, (hb.cell (p := ⟨b, j * 2 + 1, none⟩) hlt).trans (h j hj).2⟩
def zArr : Array Value := #[.int .i64 127, .int .i64 159, .int .i64 768, .int .i64 879, .int .i64 6832, .int .i64 6911, .int .i64 7616, .int .i64 7679, .int .i64 8203, .int .i64 8207, .int .i64 8400, .int .i64 8447, .int .i64 55296, .int .i64 57343, .int .i64 65024, .int .i64 65039, .int .i64 65056, .int .i64 65071, .int .i64 65279, .int .i64 65279, .int .i64 917760, .int .i64 917999]
def tArr : Array Value := #[.int .i64 4352, .int .i64 4447, .int .i64 11904, .int .i64 12350, .int .i64 12353, .int .i64 13311, .int .i64 13312, .int .i64 19903, .int .i64 19968, .int .i64 40959, .int .i64 40960, .int .i64 42191, .int .i64 44032, .int .i64 55203, .int .i64 63744, .int .i64 64255, .int .i64 65072, .int .i64 65135, .int .i64 65280, .int .i64 65376, .int .i64 65504, .int .i64 65510, .int .i64 127744, .int .i64 128591, .int .i64 129280, .int .i64 129535, .int .i64 131072, .int .i64 262141]
theorem z_new (w : World) (t : TypeId) : Sp (w.alloc (.cells zArr t)) w.heap.size zeros := by
  intro j hj
  have hj : j < 11 := hj
  rw [World.cell?_alloc_new, World.cell?_alloc_new]
  obtain rfl | rfl | rfl | rfl | rfl | rfl | rfl | rfl | rfl | rfl | rfl : j = 0 ∨ j = 1 ∨ j = 2 ∨ j = 3 ∨ j = 4 ∨ j = 5 ∨ j = 6 ∨ j = 7 ∨ j = 8 ∨ j = 9 ∨ j = 10 := by omega
  all_goals exact ⟨rfl, rfl⟩
theorem t_new (w : World) (t : TypeId) : Sp (w.alloc (.cells tArr t)) w.heap.size twos := by
  intro j hj
  have hj : j < 14 := hj
  rw [World.cell?_alloc_new, World.cell?_alloc_new]
  obtain rfl | rfl | rfl | rfl | rfl | rfl | rfl | rfl | rfl | rfl | rfl | rfl | rfl | rfl : j = 0 ∨ j = 1 ∨ j = 2 ∨ j = 3 ∨ j = 4 ∨ j = 5 ∨ j = 6 ∨ j = 7 ∨ j = 8 ∨ j = 9 ∨ j = 10 ∨ j = 11 ∨ j = 12 ∨ j = 13 := by omega
  all_goals exact ⟨rfl, rfl⟩

set_option maxRecDepth 100000 in
set_option maxHeartbeats 4000000 in
theorem refOf_any (r : Int) (w : World) :
    Calls Tryd.prog 116 #[.int .i64 r] w fun e w' => e = .returned (.int .i64 (refOf r : Int)) ∧ Below w.heap.size w w' := by
  obtain ⟨R, hR⟩ : ∃ R, refOf r = R := ⟨_, rfl⟩
  rw [hR]
  have HR := Lib.hid hR
  obtain ⟨wA, hwA⟩ : ∃ wA, w.alloc (.cells zArr 192) = wA := ⟨_, rfl⟩
  obtain ⟨wB, hwB⟩ : ∃ wB, wA.alloc (.cells tArr 192) = wB := ⟨_, rfl⟩
  have hsA : wA.heap.size = w.heap.size + 1 := by rw [← hwA]; simp
  have hsB : wB.heap.size = w.heap.size + 2 := by rw [← hwB]; simp; omega
  have hZ : Sp wB w.heap.size zeros := by rw [← hwB]; exact (hwA ▸ z_new w _).below ((Below.refl wA.heap.size _).alloc (Nat.le_refl _) _) (by omega)
  have hT : Sp wB (w.heap.size + 1) twos := by rw [← hwB, ← hsA]; exact t_new wA _
  have hB : Below w.heap.size w wB := by rw [← hwB, ← hwA]; exact ((Below.refl _ _).alloc (Nat.le_refl _) _).alloc (by simp) _
  have HZ := Lib.hid hZ
  have HT := Lib.hid hT
  have HB := Lib.hid hB
  clear hR hZ hT hB
  unfold zArr at hwA
  unfold tArr at hwB
  have HA := Lib.hid hwA
  have HBB := Lib.hid hwB
  have hszB : w.heap.size + 2 ≤ wB.heap.size := by omega
  have hpA : w.heap.size < w.heap.size + 2 := by omega
  have HSA := Lib.hid hsA
  clear hwA hwB hsA hsB
  go_enter Tryd.func116, Tryd.ntmps116
  go_upto_region 3 with fail
  rw [HA.out, HBB.out]
  by_cases h1 : r < 32
  · have HV : Hid (R = 0) := Lib.hid (by rw [← HR.out]; unfold refOf; rw [if_pos h1])
    go_wp2
    go_ret
    exact ⟨by rw [HV.out]; rfl, HB.out⟩
  by_cases h2 : 1114111 < r
  · have HV : Hid (R = 0) := Lib.hid (by rw [← HR.out]; unfold refOf; rw [if_neg h1, if_pos h2])
    go_wp2
    go_ret
    exact ⟨by rw [HV.out]; rfl, HB.out⟩
  have HR' : Hid ((if inL zeros r then 0 else if inL twos r then 2 else 1) = R) := Lib.hid (by rw [← HR.out]; unfold refOf; rw [if_neg h1, if_neg h2])
  go_wp2
  go_loopw [44] (fun i wr => ∃ j : Nat, i = .int .i64 (j : Int) ∧ j ≤ 11 ∧ w.heap.size + 2 ≤ wr.heap.size ∧ Hid (Below (w.heap.size + 2) wB wr ∧ inL (zeros.drop j) r = inL zeros r)) (fun i _ => 11 - (intOf i).toNat)
  case atStart => exact ⟨0, rfl, by omega, hszB, Lib.hid ⟨Below.refl _ _, rfl⟩⟩
  case round =>
    rename_i wr
    obtain ⟨j, rfl, hj, hbw, HF⟩ := hrel
    by_cases hlt : j < 11
    · have hw := HF.out.1
      obtain ⟨c0, c1⟩ := (HZ.out.below hw (by omega)) j hlt
      have hst := inL_step zeros j hlt r
      have hF2 := HF.out.2
      obtain ⟨⟨a, b⟩, hx⟩ : ∃ x, zeros.getD j (0, 0) = x := ⟨_, rfl⟩
      rw [hx] at c0 c1 hst
      simp only at c0 c1 hst
      clear hx hw
      by_cases h3 : a ≤ r
      · by_cases h4 : r ≤ b
        · have hin : inL zeros r = true := by rw [← hF2, hst]; simp [h3, h4]
          have HV : Hid (R = 0) := Lib.hid (by rw [← HR'.out]; simp [hin])
          clear hst hF2 hin
          go_wp2
          go_ret
          exact ⟨by rw [HV.out]; rfl, HB.out.trans ((HF.out.1.alloc hbw _).mono (by omega))⟩
        · have hF3 : Hid (inL (zeros.drop (j + 1)) r = inL zeros r) := Lib.hid (by rw [← hF2, hst]; simp [h4])
          clear hst hF2
          go_wp2
          go_roundw
          case rel => exact ⟨j + 1, by go_num, by omega, by simp; omega, Lib.hid ⟨HF.out.1.alloc hbw _, hF3.out⟩⟩
          case measure => simp [intOf]; omega
      · have hF3 : Hid (inL (zeros.drop (j + 1)) r = inL zeros r) := Lib.hid (by rw [← hF2, hst]; simp [h3])
        clear hst hF2
        go_wp2
        go_roundw
        case rel => exact ⟨j + 1, by go_num, by omega, by simp; omega, Lib.hid ⟨HF.out.1.alloc hbw _, hF3.out⟩⟩
        case measure => simp [intOf]; omega
    · obtain rfl : j = 11 := by omega
      have hno : inL zeros r = false := by rw [← HF.out.2]; rfl
      have HN := Lib.hid hno
      have HBW := Lib.hid HF.out.1
      clear hno HF
      go_wp2
      go_loopw [61] (fun i wr => ∃ j : Nat, i = .int .i64 (j : Int) ∧ j ≤ 14 ∧ w.heap.size + 2 ≤ wr.heap.size ∧ Hid (Below (w.heap.size + 2) wB wr ∧ inL (twos.drop j) r = inL twos r)) (fun i _ => 14 - (intOf i).toNat)
      case atStart => exact ⟨0, rfl, by omega, hbw, Lib.hid ⟨HBW.out, rfl⟩⟩
      case round =>
        rename_i wr2
        clear hbw
        obtain ⟨j, rfl, hj, hbw, HF⟩ := hrel
        by_cases hlt : j < 14
        · have hw := HF.out.1
          obtain ⟨c0, c1⟩ := (HT.out.below hw (by omega)) j hlt
          have hst := inL_step twos j hlt r
          have hF2 := HF.out.2
          obtain ⟨⟨a, b⟩, hx⟩ : ∃ x, twos.getD j (0, 0) = x := ⟨_, rfl⟩
          rw [hx] at c0 c1 hst
          simp only at c0 c1 hst
          clear hx hw
          by_cases h3 : a ≤ r
          · by_cases h4 : r ≤ b
            · have hin : inL twos r = true := by rw [← hF2, hst]; simp [h3, h4]
              have HV : Hid (R = 2) := Lib.hid (by rw [← HR'.out]; simp [hin, HN.out])
              clear hst hF2 hin
              go_wp2
              go_ret
              exact ⟨by rw [HV.out]; rfl, HB.out.trans ((HF.out.1.alloc hbw _).mono (by omega))⟩
            · have hF3 : Hid (inL (twos.drop (j + 1)) r = inL twos r) := Lib.hid (by rw [← hF2, hst]; simp [h4])
              clear hst hF2
              go_wp2
              go_roundw
              case rel => exact ⟨j + 1, by go_num, by omega, by simp; omega, Lib.hid ⟨HF.out.1.alloc hbw _, hF3.out⟩⟩
              case measure => simp [intOf]; omega
          · have hF3 : Hid (inL (twos.drop (j + 1)) r = inL twos r) := Lib.hid (by rw [← hF2, hst]; simp [h3])
            clear hst hF2
            go_wp2
            go_roundw
            case rel => exact ⟨j + 1, by go_num, by omega, by simp; omega, Lib.hid ⟨HF.out.1.alloc hbw _, hF3.out⟩⟩
            case measure => simp [intOf]; omega
        · obtain rfl : j = 14 := by omega
          have hno : inL twos r = false := by rw [← HF.out.2]; rfl
          have HV : Hid (R = 1) := Lib.hid (by rw [← HR'.out]; simp [hno, HN.out])
          clear hno
          go_wp2
          go_ret
          exact ⟨by rw [HV.out]; rfl, HB.out.trans (HF.out.1.mono (by omega))⟩
end Go.Proofs.YtkggmcnocpgnbaaDoor.W
