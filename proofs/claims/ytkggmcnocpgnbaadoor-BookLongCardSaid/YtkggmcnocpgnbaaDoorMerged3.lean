/- Plain facts on columns: the table's answer is the document's; sums, and how many fit. No Go here. -/
import Derived.Test.YtkggmcnocpgnbaaDoorRows
import Derived.WalkKit
import Derived.WalkLawsBesides
import Derived.WalkSpells
import Derived.Outline
import Derived.Lib.Hide
import Derived.Below
import Derived.IntWalk
import Derived.OwnWalk
import Derived.Test.YtkggmcnocpgnbaaDoorVRep
namespace Go.Proofs.YtkggmcnocpgnbaaDoor.W

/-- the spans, rising: from, to, columns -/
def tab : List (Int × Int × Nat) := [(-2147483648, 31, 0), (127, 159, 0), (768, 879, 0), (4352, 4447, 2), (6832, 6911, 0), (7616, 7679, 0), (8203, 8207, 0), (8400, 8447, 0), (11904, 12350, 2), (12353, 13311, 2), (13312, 19903, 2), (19968, 40959, 2), (40960, 42191, 2), (44032, 55203, 2), (55296, 57343, 0), (63744, 64255, 2), (65024, 65039, 0), (65056, 65071, 0), (65072, 65135, 2), (65279, 65279, 0), (65280, 65376, 2), (65504, 65510, 2), (127744, 128591, 2), (129280, 129535, 2), (131072, 262141, 2), (917760, 917999, 0), (1114112, 2147483647, 0)]
/-- the first span that it is in, if none before begins behind it -/
def look : List (Int × Int × Nat) → Int → Nat
  | [], _ => 1
  | (a, b, c) :: t, r => if r < a then 1 else if r ≤ b then c else look t r
def ofS (r : Int) : Nat := look tab r
def zeros : List (Int × Int) := [(127, 159), (768, 879), (6832, 6911), (7616, 7679), (8203, 8207), (8400, 8447), (55296, 57343), (65024, 65039), (65056, 65071), (65279, 65279), (917760, 917999)]
def twos : List (Int × Int) := [(4352, 4447), (11904, 12350), (12353, 13311), (13312, 19903), (19968, 40959), (40960, 42191), (44032, 55203), (63744, 64255), (65072, 65135), (65280, 65376), (65504, 65510), (127744, 128591), (129280, 129535), (131072, 262141)]
def inL : List (Int × Int) → Int → Bool
  | [], _ => false
  | (a, b) :: t, r => (decide (a ≤ r) && decide (r ≤ b)) || inL t r
def refOf (r : Int) : Nat := if r < 32 then 0 else if 1114111 < r then 0 else if inL zeros r then 0 else if inL twos r then 2 else 1

/-- what the rest of the table says, if nothing before it does -/
def rest (k : Nat) (r : Int) : Nat := look (tab.drop k) r
theorem rest_step (k : Nat) (hk : k < 27) (r : Int) : rest k r = if r < (tab.getD k (0, 0, 0)).1 then 1 else if r ≤ (tab.getD k (0, 0, 0)).2.1 then (tab.getD k (0, 0, 0)).2.2 else rest (k + 1) r := by
  have h : tab.drop k = tab.getD k (0, 0, 0) :: tab.drop (k + 1) := by
    have hk' : k < tab.length := hk
    rw [List.drop_eq_getElem_cons hk']
    simp [List.getD_eq_getElem?_getD, hk']
  unfold rest
  rw [h]
  rfl
theorem inL_step (t : List (Int × Int)) (j : Nat) (hj : j < t.length) (r : Int) : inL (t.drop j) r = ((decide ((t.getD j (0, 0)).1 ≤ r) && decide (r ≤ (t.getD j (0, 0)).2)) || inL (t.drop (j + 1)) r) := by
  have h : t.drop j = t.getD j (0, 0) :: t.drop (j + 1) := by
    rw [List.drop_eq_getElem_cons hj]
    simp [List.getD_eq_getElem?_getD, hj]
  rw [h]
  rfl
/-- where anything begins or ends, rising -/
def marks : List Int := [-2147483648, 32, 127, 160, 768, 880, 4352, 4448, 6832, 6912, 7616, 7680, 8203, 8208, 8400, 8448, 11904, 12351, 12353, 13312, 19904, 19968, 40960, 42192, 44032, 55204, 55296, 57344, 63744, 64256, 65024, 65040, 65056, 65072, 65136, 65279, 65280, 65377, 65504, 65511, 127744, 128592, 129280, 129536, 131072, 262142, 917760, 918000, 1114112, 2147483648]
def pairs : List Int → List (Int × Int)
  | a :: b :: t => (a, b) :: pairs (b :: t)
  | _ => []
theorem between (r : Int) : ∀ (l : List Int) (a : Int), a ≤ r → r < (a :: l).getLast (by simp) → ∃ p ∈ pairs (a :: l), p.1 ≤ r ∧ r < p.2
  | [], a, h1, h2 => by simp at h2; omega
  | b :: l, a, h1, h2 => by
    by_cases h : r < b
    · exact ⟨(a, b), by simp [pairs], h1, h⟩
    · obtain ⟨p, hp, h3⟩ := between r l b (by omega) (by simpa using h2)
      exact ⟨p, by simp only [pairs]; exact List.mem_cons_of_mem _ hp, h3⟩
theorem look_same {p q r : Int} (h1 : p ≤ r) (h2 : r < q) : ∀ t : List (Int × Int × Nat), (∀ x ∈ t, (x.1 ≤ p ∨ q ≤ x.1) ∧ (x.2.1 + 1 ≤ p ∨ q ≤ x.2.1 + 1)) → look t r = look t p
  | [], _ => rfl
  | (a, b, c) :: t, h => by
    have h3 := h (a, b, c) (by simp)
    have h4 := look_same h1 h2 t fun x hx => h x (by simp [hx])
    simp only at h3
    simp only [look, h4]
    by_cases e1 : p < a
    · rw [if_pos e1, if_pos (by omega)]
    · rw [if_neg e1, if_neg (by omega)]
      by_cases e2 : p ≤ b
      · rw [if_pos e2, if_pos (by omega)]
      · rw [if_neg e2, if_neg (by omega)]
theorem inL_same {p q r : Int} (h1 : p ≤ r) (h2 : r < q) : ∀ t : List (Int × Int), (∀ x ∈ t, (x.1 ≤ p ∨ q ≤ x.1) ∧ (x.2 + 1 ≤ p ∨ q ≤ x.2 + 1)) → inL t r = inL t p
  | [], _ => rfl
  | (a, b) :: t, h => by
    have h3 := h (a, b) (by simp)
    have h4 := inL_same h1 h2 t fun x hx => h x (by simp [hx])
    simp only at h3
    simp only [inL, h4]
    congr 2
    · rw [decide_eq_decide]; omega
    · rw [decide_eq_decide]; omega
def fineL (p : Int × Int) : Bool := decide (ofS p.1 = refOf p.1) && (tab.all (fun x => (decide (x.1 ≤ p.1) || decide (p.2 ≤ x.1)) && (decide (x.2.1 + 1 ≤ p.1) || decide (p.2 ≤ x.2.1 + 1))) && (zeros ++ twos).all (fun x => (decide (x.1 ≤ p.1) || decide (p.2 ≤ x.1)) && (decide (x.2 + 1 ≤ p.1) || decide (p.2 ≤ x.2 + 1))) && (decide (32 ≤ p.1) || decide (p.2 ≤ 32)) && (decide (1114112 ≤ p.1) || decide (p.2 ≤ 1114112)))
set_option maxRecDepth 10000 in
theorem all_fine : (pairs marks).all fineL = true := by decide +kernel
theorem ofS_ref (r : Int) (h1 : -2147483648 ≤ r) (h2 : r ≤ 2147483647) : ofS r = refOf r := by
  obtain ⟨p, hp, h3, h4⟩ := between r marks.tail (-2147483648) h1 (by show r < 2147483648; omega)
  have hf := List.all_eq_true.1 all_fine p hp
  unfold fineL at hf
  simp only [Bool.and_eq_true, decide_eq_true_eq, List.all_eq_true, Bool.or_eq_true] at hf
  obtain ⟨e, ⟨⟨ht, hz⟩, h32⟩, htop⟩ := hf
  have k1 : ofS r = ofS p.1 := look_same h3 h4 _ ht
  have k2 : inL zeros r = inL zeros p.1 := inL_same h3 h4 _ fun x hx => hz x (by simp [hx])
  have k3 : inL twos r = inL twos p.1 := inL_same h3 h4 _ fun x hx => hz x (by simp [hx])
  rw [k1, e]
  unfold refOf
  rw [k2, k3]
  by_cases e1 : p.1 < 32
  · rw [if_pos e1, if_pos (by omega : r < 32)]
  · rw [if_neg e1, if_neg (by omega : ¬ r < 32)]
    by_cases e2 : 1114111 < p.1
    · rw [if_pos e2, if_pos (by omega : 1114111 < r)]
    · rw [if_neg e2, if_neg (by omega : ¬ 1114111 < r)]
theorem look_le {k : Nat} : ∀ t : List (Int × Int × Nat), (∀ x ∈ t, x.2.2 ≤ k) → 1 ≤ k → ∀ r, look t r ≤ k
  | [], _, h, _ => h
  | (a, b, c) :: t, h, hk, r => by
    have h3 := h (a, b, c) (by simp)
    have h4 := look_le t (fun x hx => h x (by simp [hx])) hk r
    simp only [look]
    split
    · exact hk
    · split
      · exact h3
      · exact h4
theorem ofS_le (r : Int) : ofS r ≤ 2 := look_le tab (by decide) (by decide) r

end Go.Proofs.YtkggmcnocpgnbaaDoor.W

/- The contract of wide.Of: of any rune, in a world that holds the spans, it returns how many columns the rune has; it makes memory, and changes none that was. -/
namespace Go.Proofs.YtkggmcnocpgnbaaDoor.W
open Go.RowKit

/-- The world holds the spans. -/
def Tab (w : World) : Prop := ∀ k, k < 27 → w.cell? ⟨0, k * 3, none⟩ = some (.int .i32 (tab.getD k (0, 0, 0)).1) ∧ w.cell? ⟨0, k * 3 + 1, none⟩ = some (.int .i32 (tab.getD k (0, 0, 0)).2.1) ∧ w.cell? ⟨0, k * 3 + 2, none⟩ = some (.int .i64 ((tab.getD k (0, 0, 0)).2.2 : Int))
theorem Tab.pos {w : World} (h : Tab w) : 0 < w.heap.size := World.block_lt_of_cell? w _ (h 0 (by decide)).1
theorem Tab.below {w w' : World} (h : Tab w) {b : Nat} (hb : Below b w w') (h0 : 0 < b) : Tab w' := fun k hk =>
  ⟨(hb.cell (p := ⟨0, k * 3, none⟩) h0).trans (h k hk).1, (hb.cell (p := ⟨0, k * 3 + 1, none⟩) h0).trans (h k hk).2.1, (hb.cell (p := ⟨0, k * 3 + 2, none⟩) h0).trans (h k hk).2.2⟩
theorem Tab.belowAll {w w' : World} (h : Tab w) (hb : Below w.heap.size w w') : Tab w' := h.below hb h.pos

set_option maxRecDepth 100000 in
set_option maxHeartbeats 2000000 in
theorem of_any (r : Int) (w : World) (hT : Tab w) :
    Calls Tryd.prog 108 #[.int .i32 r] w fun e w' => e = .returned (.int .i64 (ofS r : Int)) ∧ Below w.heap.size w w' := by
  have HT := Lib.hid hT
  obtain ⟨R, hR⟩ : ∃ R, ofS r = R := ⟨_, rfl⟩
  rw [hR]
  have HR : Hid (rest 0 r = R) := Lib.hid hR
  obtain ⟨base, hbase⟩ : ∃ base, w.heap.size = base := ⟨_, rfl⟩
  have hpos : 0 < base := by rw [← hbase]; exact hT.pos
  have h0 : Below base w w := Below.refl _ _
  rw [hbase]
  have HB0 := Lib.hid h0
  have hsz : base ≤ w.heap.size := by omega
  clear hT hR h0 hbase
  go_enter Tryd.func108, Tryd.ntmps108
  go_wp2
  go_loopw [5] (fun i wr => ∃ k : Nat, i = .int .i64 (k : Int) ∧ k ≤ 27 ∧ base ≤ wr.heap.size ∧ Hid (Below base w wr ∧ rest k r = R)) (fun i _ => 27 - (intOf i).toNat)
  case atStart => exact ⟨0, rfl, by omega, hsz, Lib.hid ⟨HB0.out, HR.out⟩⟩
  case round =>
    rename_i wr
    obtain ⟨k, rfl, hk, hbw, HF⟩ := hrel
    by_cases hlt : k < 27
    · obtain ⟨c0, c1, c2⟩ := (HT.out.below HF.out.1 hpos) k hlt
      have hst := rest_step k hlt r
      obtain ⟨⟨a, b, c⟩, hx⟩ : ∃ x, tab.getD k (0, 0, 0) = x := ⟨_, rfl⟩
      rw [hx] at c0 c1 c2 hst
      simp only at c0 c1 c2 hst
      clear hx
      by_cases h1 : r < a
      · rw [if_pos h1] at hst
        have HR' : Hid (R = 1) := Lib.hid (HF.out.2.symm.trans hst)
        clear hst
        go_wp2
        go_ret
        exact ⟨by rw [HR'.out]; rfl, HF.out.1.alloc hbw _⟩
      · rw [if_neg h1] at hst
        by_cases h2 : r ≤ b
        · rw [if_pos h2] at hst
          have HR' : Hid (R = c) := Lib.hid (HF.out.2.symm.trans hst)
          clear hst
          go_wp2
          go_ret
          exact ⟨by rw [HR'.out]; rfl, HF.out.1.alloc hbw _⟩
        · rw [if_neg h2] at hst
          have HSt := Lib.hid hst
          clear hst
          go_wp2
          go_roundw
          case rel => exact ⟨k + 1, by go_num, by omega, by simp; omega, Lib.hid ⟨HF.out.1.alloc hbw _, by rw [← HF.out.2, HSt.out]⟩⟩
          case measure => simp [intOf]; omega
    · obtain rfl : k = 27 := by omega
      have HR' : Hid (R = 1) := Lib.hid HF.out.2.symm
      have HB := Lib.hid HF.out.1
      clear HF
      go_wp2
      go_ret
      exact ⟨by rw [HR'.out]; rfl, HB.out⟩
end Go.Proofs.YtkggmcnocpgnbaaDoor.W

/- The contracts of the program's blanks and Blank, and of a rune's cells. -/
namespace Go.Proofs.YtkggmcnocpgnbaaDoor.K
open Go.RowKit

theorem rep_cells (rk : IntKind) (n : Nat) (c : Cel) : U.rep n (cCells rk c) = flatC rk (List.replicate n c) := by
  induction n with
  | zero => rfl
  | succ n ih =>
    unfold U.rep at ih ⊢
    rw [List.replicate_succ, List.flatten_cons, ih, List.replicate_succ]
    rfl
set_option maxRecDepth 100000 in
set_option maxHeartbeats 4000000 in
theorem blanks_any (n : Nat) (s : Int) (hn : (n : Int) ≤ 1000000) (w : World) : Calls Tryd.prog 48 #[.int .i64 (n : Int), .int .i64 s] w (CelPost 105 w.heap.size (blanks n s) w) := by
  obtain ⟨P, hP⟩ : ∃ P, CelPost 105 w.heap.size (blanks n s) w = P := ⟨_, rfl⟩
  rw [hP]
  have HP := Lib.hid hP
  have HBl := Lib.hid (fun (v : World) => blank_any s v)
  clear hP
  go_enter Tryd.func48, Tryd.ntmps48
  go_wp2_with (go_at_call 86; refine (HBl.out _).mono ?_; rintro e w1 ⟨rfl, hb1⟩)
  obtain ⟨w2, hw2⟩ : ∃ w2, w1.alloc (.cells #[.int .i32 32, .int .i64 s, .int .i64 0] 105) = w2 := ⟨_, rfl⟩
  rw [hw2]
  obtain ⟨g, hg⟩ : ∃ g, w1.heap.size = g := ⟨_, rfl⟩
  rw [hg]
  have hblk : w2.heap[g]? = some (.cells #[.int .i32 32, .int .i64 s, .int .i64 0] 105 (0, 0)) := by rw [← hw2, ← hg]; exact World.alloc_heap_new _ _
  have hb2 : Below w.heap.size w w2 := by rw [← hw2]; exact hb1.alloc hb1.size _
  have hR := repeat_cells g 0 1 n (cCells .i32 (blk s)) w2 rfl (fun j u hj => by
    have hadd : ((⟨g, 0, none⟩ : Addr).add j) = ⟨g, 0 + j, none⟩ := by unfold Addr.add; split <;> simp_all
    rw [hadd, Nat.zero_add]
    simp only [World.cell?, hblk]
    simpa [cCells, blk] using hj) ((Array.getElem?_eq_some_iff.1 hblk).1) (fun u hu => flatC_one .i32 [blk s] u (by simpa [flatC] using hu)) hn
  rw [rep_cells] at hR
  have HR := Lib.hid hR
  have HB2 := Lib.hid hb2
  clear hblk hb2 hR hw2 hg hb1
  go_wp2_with fail
  refine HR.out.mono ?_
  rintro e w3 ⟨rfl, ho3, hb3⟩
  have HF : Hid (OwnC .i32 105 w.heap.size (.slice (some ⟨w2.heap.size, 0, none⟩) n n) (blanks n s) w3 ∧ Below w.heap.size w w3) := Lib.hid ⟨by
    have h : OwnC .i32 105 w2.heap.size (.slice (some ⟨w2.heap.size, 0, none⟩) n n) (blanks n s) w3 := by unfold OwnC; rw [blanks_length]; exact ho3
    exact h.weaken HB2.out.size, HB2.out.trans (hb3.mono HB2.out.size)⟩
  clear ho3 hb3 HR
  go_wp2_with fail
  rw [← HP.out]
  exact ⟨_, rfl, HF.out.1, HF.out.2⟩
theorem nearS_N (w : Int) : nearS w 1000 = (nearN w : Int) := by unfold nearS nearN; omega
set_option maxRecDepth 100000 in
set_option maxHeartbeats 4000000 in
theorem rowBlank_any (n s : Int) (w : World) : Calls Tryd.prog 13 #[.int .i64 n, .int .i64 s] w (RowPost .i32 105 w.heap.size (blanks (nearN n) s) false w) := by
  obtain ⟨rb, hrb⟩ : ∃ rb, w.heap.size = rb := ⟨_, rfl⟩
  rw [hrb]
  obtain ⟨N, hN⟩ : ∃ N, nearN n = N := ⟨_, rfl⟩
  have hN1 : N ≤ 1000 := by rw [← hN]; exact nearN_le n
  obtain ⟨P, hP⟩ : ∃ P, RowPost .i32 105 rb (blanks N s) false w = P := ⟨_, rfl⟩
  rw [hN, hP]
  have HP := Lib.hid hP
  have HNear := Lib.hid (fun (v : World) => nearest_any n 1000 v)
  rw [nearS_N, hN] at HNear
  obtain ⟨w1, hw1⟩ : ∃ w1, w.alloc (.cells #[.slice none 0 0, .bool false] 27) = w1 := ⟨_, rfl⟩
  have hb1 : Below rb w w1 := by rw [← hw1, ← hrb]; exact (Below.refl _ _).alloc (Nat.le_refl _) _
  have hr1 : RoB 27 rb (.slice none 0 0) false w1 := by rw [← hw1, ← hrb]; exact RoB.new _ _ _ _
  have HBs := Lib.hid (blanks_any N s (by omega) w1)
  have hs1 : w1.heap.size = rb + 1 := by rw [← hw1, World.size_alloc, hrb]
  rw [hs1] at HBs
  have HB1 := Lib.hid hb1
  have HR1 := Lib.hid hr1
  have HW1 := Lib.hid hw1
  have HRb := Lib.hid hrb
  clear hP hN hw1 hb1 hr1 hrb hs1
  go_enter Tryd.func13, Tryd.ntmps13
  go_upto_region 1 with fail
  rw [HW1.out, HRb.out]
  go_wp2_with (go_at_call 49; refine (HNear.out _).mono ?_; rintro e w' ⟨rfl, rfl⟩)
  refine HBs.out.mono ?_
  rintro e w2 ⟨v2, rfl, ho2, hb2⟩
  obtain ⟨a2, c2, rfl, -⟩ := ho2.shape
  have HO2 := Lib.hid ho2
  have HB2 : Hid (Below rb w w2) := Lib.hid (HB1.out.trans (hb2.mono (Nat.le_succ _)))
  have hr2 := HR1.out.below hb2 (Nat.lt_succ_self rb)
  have c0 := hr2.c0
  have c1 := hr2.c1
  have f0 := hr2.fr 0
  have f1 := hr2.fr 1
  clear ho2 hb2 hr2 HBs
  go_wp2_with fail
  refine bodyPost_ret (v := .agg #[.slice a2 (blanks N s).length c2, .bool false]) (by rw [results_cell (fn := Tryd.f13) rfl]; go_simp <;> rfl) rfl ?_
  rw [← HP.out]
  exact ⟨_, rfl, (HO2.out.set2 (Nat.lt_succ_self rb) _ _).weaken (by omega), below_set2 HB2.out (Nat.le_refl _)⟩
end Go.Proofs.YtkggmcnocpgnbaaDoor.K
