/- Plain facts on columns: the table's answer is the document's; sums, and how many fit. No Go here. -/
import Derived.Test.YtjlljkdlgkociaaRows
import Derived.WalkKit
import Derived.WalkLawsBesides
import Derived.WalkSpells
import Derived.Outline
import Derived.Lib.Hide
import Derived.Below
import Derived.IntWalk
import Derived.OwnWalk
import Derived.Test.YtjlljkdlgkociaaVRep
import Derived.Test.YtjlljkdlgkociaaMerged5
import Derived.Lib.AppendZeros
import Derived.Lib.Buffer
import Derived.Test.YtjlljkdlgkociaaMerged7
namespace Go.Proofs.Ytjlljkdlgkociaa.W

/-- the spans, rising: from, to, columns -/
def tab : List (Int × Int × Nat) := [(-2147483648, 31, 0), (127, 159, 0), (768, 879, 0), (4352, 4447, 2), (6832, 6911, 0), (7616, 7679, 0), (8203, 8207, 0), (8400, 8447, 0), (11904, 12350, 2), (12353, 13311, 2), (13312, 19903, 2), (19968, 40959, 2), (40960, 42191, 2), (44032, 55203, 2), (55296, 57343, 0), (63744, 64255, 2), (65024, 65039, 0), (65056, 65071, 0), (65072, 65135, 2), (65279, 65279, 0), (65280, 65376, 2), (65504, 65510, 2), (127744, 128591, 2), (129280, 129535, 2), (131072, 262141, 2), (917760, 917999, 0), (1114112, 2147483647, 0)]
/-- the first span that it is in, if none before begins behind it -/
def look : List (Int × Int × Nat) → Int → Nat
  | [], _ => 1
  | (a, b, c) :: t, r => if r < a then 1 else if r ≤ b then c else look t r
def inL : List (Int × Int) → Int → Bool
  | [], _ => false
  | (a, b) :: t, r => (decide (a ≤ r) && decide (r ≤ b)) || inL t r
/-- what the rest of the table says, if nothing before it does -/
def rest (k : Nat) (r : Int) : Nat := look (tab.drop k) r
theorem rest_end (r : Int) : rest 27 r = 1 := rfl
theorem rest_step (k : Nat) (hk : k < 27) (r : Int) : rest k r = if r < (tab.getD k (0, 0, 0)).1 then 1 else if r ≤ (tab.getD k (0, 0, 0)).2.1 then (tab.getD k (0, 0, 0)).2.2 else rest (k + 1) r := by
  have h : tab.drop k = tab.getD k (0, 0, 0) :: tab.drop (k + 1) := by
    have hk' : k < tab.length := hk
    rw [List.drop_eq_getElem_cons hk']
    simp [List.getD_eq_getElem?_getD, hk']
  unfold rest
  rw [h]
  rfl
/-- where anything begins or ends, rising -/
def marks : List Int := [-2147483648, 32, 127, 160, 768, 880, 4352, 4448, 6832, 6912, 7616, 7680, 8203, 8208, 8400, 8448, 11904, 12351, 12353, 13312, 19904, 19968, 40960, 42192, 44032, 55204, 55296, 57344, 63744, 64256, 65024, 65040, 65056, 65072, 65136, 65279, 65280, 65377, 65504, 65511, 127744, 128592, 129280, 129536, 131072, 262142, 917760, 918000, 1114112, 2147483648]
def pairs : List Int → List (Int × Int)
  | a :: b :: t => (a, b) :: pairs (b :: t)
  | _ => []
theorem between (r : Int) : ∀ (l : List Int) (a : Int), a ≤ r → r < (a :: l).getLast (by simp) → ∃ p ∈ pairs (a :: l), p.1 ≤ r ∧ r < p.2
  | [], a, h1, h2 => by simp at h2; omega
  | b :: l, a, h1, h2 => by
    by_cases h : r < b
    · exact ⟨(a, b), by simp [pairs], h1, h⟩
    · obtain ⟨p, hp, h3⟩ := between r l b (by omega) (by simpa using h2)
      exact ⟨p, by simp only [pairs]; exact List.mem_cons_of_mem _ hp, h3⟩
end Go.Proofs.Ytjlljkdlgkociaa.W

/- The contract of wide.Of: of any rune, in a world that holds the spans, it returns how many columns the rune has; it makes memory, and changes none that was. -/
namespace Go.Proofs.Ytjlljkdlgkociaa.W
open Go.RowKit

/-- The world holds the spans. -/
def Tab (w : World) : Prop := ∀ k, k < 27 → w.cell? ⟨0, k * 3, none⟩ = some (.int .i32 (tab.getD k (0, 0, 0)).1) ∧ w.cell? ⟨0, k * 3 + 1, none⟩ = some (.int .i32 (tab.getD k (0, 0, 0)).2.1) ∧ w.cell? ⟨0, k * 3 + 2, none⟩ = some (.int .i64 ((tab.getD k (0, 0, 0)).2.2 : Int))
theorem Tab.pos {w : World} (h : Tab w) : 0 < w.heap.size := World.block_lt_of_cell? w _ (h 0 (by decide)).1
theorem Tab.below {w w' : World} (h : Tab w) {b : Nat} (hb : Below b w w') (h0 : 0 < b) : Tab w' := fun k hk =>
  ⟨(hb.cell (p := ⟨0, k * 3, none⟩) h0).trans (h k hk).1, (hb.cell (p := ⟨0, k * 3 + 1, none⟩) h0).trans (h k hk).2.1, (hb.cell (p := ⟨0, k * 3 + 2, none⟩) h0).trans (h k hk).2.2⟩
theorem Tab.belowAll {w w' : World} (h : Tab w) (hb : Below w.heap.size w w') : Tab w' := h.below hb h.pos

end Go.Proofs.Ytjlljkdlgkociaa.W

/- The contracts of the program's blanks and Blank, and of a rune's cells. -/
namespace Go.Proofs.Ytjlljkdlgkociaa.K
open Go.RowKit

theorem rep_cells (rk : IntKind) (n : Nat) (c : Cel) : U.rep n (cCells rk c) = flatC rk (List.replicate n c) := by
  induction n with
  | zero => rfl
  | succ n ih =>
    unfold U.rep at ih ⊢
    rw [List.replicate_succ, List.flatten_cons, ih, List.replicate_succ]
    rfl
set_option maxRecDepth 100000 in
set_option maxHeartbeats 4000000 in
theorem blanks_any (n : Nat) (s : Int) (hn : (n : Int) ≤ 1000000) (w : World) : Calls Try.prog 95 #[.int .i64 (n : Int), .int .i64 s] w (CelPost 52 w.heap.size (blanks n s) w) := by
  obtain ⟨P, hP⟩ : ∃ P, CelPost 52 w.heap.size (blanks n s) w = P := ⟨_, rfl⟩
  rw [hP]
  have HP := Lib.hid hP
  have HBl := Lib.hid (fun (v : World) => blank_any s v)
  clear hP
  go_enter Try.func95, Try.ntmps95
  go_wp2_with (go_at_call 101; refine (HBl.out _).mono ?_; rintro e w1 ⟨rfl, hb1⟩)
  obtain ⟨w2, hw2⟩ : ∃ w2, w1.alloc (.cells #[.int .i32 32, .int .i64 s, .int .i64 0] 52) = w2 := ⟨_, rfl⟩
  rw [hw2]
  obtain ⟨g, hg⟩ : ∃ g, w1.heap.size = g := ⟨_, rfl⟩
  rw [hg]
  have hblk : w2.heap[g]? = some (.cells #[.int .i32 32, .int .i64 s, .int .i64 0] 52 (0, 0)) := by rw [← hw2, ← hg]; exact World.alloc_heap_new _ _
  have hb2 : Below w.heap.size w w2 := by rw [← hw2]; exact hb1.alloc hb1.size _
  have hR := repeat_cells g 0 1 n (cCells .i32 (blk s)) w2 rfl (fun j u hj => by
    have hadd : ((⟨g, 0, none⟩ : Addr).add j) = ⟨g, 0 + j, none⟩ := by unfold Addr.add; split <;> simp_all
    rw [hadd, Nat.zero_add]
    simp only [World.cell?, hblk]
    simpa [cCells, blk] using hj) ((Array.getElem?_eq_some_iff.1 hblk).1) (fun u hu => flatC_one .i32 [blk s] u (by simpa [flatC] using hu)) hn
  rw [rep_cells] at hR
  have HR := Lib.hid hR
  have HB2 := Lib.hid hb2
  clear hblk hb2 hR hw2 hg hb1
  go_wp2_with fail
  refine HR.out.mono ?_
  rintro e w3 ⟨rfl, ho3, hb3⟩
  have HF : Hid (OwnC .i32 52 w.heap.size (.slice (some ⟨w2.heap.size, 0, none⟩) n n) (blanks n s) w3 ∧ Below w.heap.size w w3) := Lib.hid ⟨by
    have h : OwnC .i32 52 w2.heap.size (.slice (some ⟨w2.heap.size, 0, none⟩) n n) (blanks n s) w3 := by unfold OwnC; rw [blanks_length]; exact ho3
    exact h.weaken HB2.out.size, HB2.out.trans (hb3.mono HB2.out.size)⟩
  clear ho3 hb3 HR
  go_wp2_with fail
  rw [← HP.out]
  exact ⟨_, rfl, HF.out.1, HF.out.2⟩
theorem nearS_N (w : Int) : nearS w 1000 = (nearN w : Int) := by unfold nearS nearN; omega
set_option maxRecDepth 100000 in
set_option maxHeartbeats 4000000 in
theorem rowBlank_any (n s : Int) (w : World) : Calls Try.prog 77 #[.int .i64 n, .int .i64 s] w (RowPost .i32 52 w.heap.size (blanks (nearN n) s) false w) := by
  obtain ⟨rb, hrb⟩ : ∃ rb, w.heap.size = rb := ⟨_, rfl⟩
  rw [hrb]
  obtain ⟨N, hN⟩ : ∃ N, nearN n = N := ⟨_, rfl⟩
  have hN1 : N ≤ 1000 := by rw [← hN]; exact nearN_le n
  obtain ⟨P, hP⟩ : ∃ P, RowPost .i32 52 rb (blanks N s) false w = P := ⟨_, rfl⟩
  rw [hN, hP]
  have HP := Lib.hid hP
  have HNear := Lib.hid (fun (v : World) => nearest_any n 1000 v)
  rw [nearS_N, hN] at HNear
  obtain ⟨w1, hw1⟩ : ∃ w1, w.alloc (.cells #[.slice none 0 0, .bool false] 50) = w1 := ⟨_, rfl⟩
  have hb1 : Below rb w w1 := by rw [← hw1, ← hrb]; exact (Below.refl _ _).alloc (Nat.le_refl _) _
  have hr1 : RoB 50 rb (.slice none 0 0) false w1 := by rw [← hw1, ← hrb]; exact RoB.new _ _ _ _
  have HBs := Lib.hid (blanks_any N s (by omega) w1)
  have hs1 : w1.heap.size = rb + 1 := by rw [← hw1, World.size_alloc, hrb]
  rw [hs1] at HBs
  have HB1 := Lib.hid hb1
  have HR1 := Lib.hid hr1
  have HW1 := Lib.hid hw1
  have HRb := Lib.hid hrb
  clear hP hN hw1 hb1 hr1 hrb hs1
  go_enter Try.func77, Try.ntmps77
  go_upto_region 1 with fail
  rw [HW1.out, HRb.out]
  go_wp2_with (go_at_call 96; refine (HNear.out _).mono ?_; rintro e w' ⟨rfl, rfl⟩)
  refine HBs.out.mono ?_
  rintro e w2 ⟨v2, rfl, ho2, hb2⟩
  obtain ⟨a2, c2, rfl, -⟩ := ho2.shape
  have HO2 := Lib.hid ho2
  have HB2 : Hid (Below rb w w2) := Lib.hid (HB1.out.trans (hb2.mono (Nat.le_succ _)))
  have hr2 := HR1.out.below hb2 (Nat.lt_succ_self rb)
  have c0 := hr2.c0
  have c1 := hr2.c1
  have f0 := hr2.fr 0
  have f1 := hr2.fr 1
  clear ho2 hb2 hr2 HBs
  go_wp2_with fail
  refine bodyPost_ret (v := .agg #[.slice a2 (blanks N s).length c2, .bool false]) (by rw [results_cell (fn := Try.f77) rfl]; go_simp <;> rfl) rfl ?_
  rw [← HP.out]
  exact ⟨_, rfl, (HO2.out.set2 (Nat.lt_succ_self rb) _ _).weaken (by omega), below_set2 HB2.out (Nat.le_refl _)⟩
end Go.Proofs.Ytjlljkdlgkociaa.K

/- The contracts of the document's Erase and Fill. -/
namespace Go.Proofs.Ytjlljkdlgkociaa.K
open Go.RowKit

/-- a row that was handed in, boxed, and one for the answer -/
structure St0 (t t2 : TypeId) (rb : Nat) (v : Value) (b : Bool) (w w2 : World) : Prop where
  below : Below rb w w2
  r : RoB t rb v b w2
  q : RoB t2 (rb + 1) (.slice none 0 0) false w2
  size : rb + 2 ≤ w2.heap.size
theorem St0.start (t t2 : TypeId) (w : World) (v : Value) (b : Bool) : St0 t t2 w.heap.size v b w ((w.alloc (.cells #[v, .bool b] t)).alloc (.cells #[.slice none 0 0, .bool false] t2)) := by
  have h1 := RoB.new t w v b
  have h2 := RoB.new t2 (w.alloc (.cells #[v, .bool b] t)) (.slice none 0 0) false
  rw [World.size_alloc] at h2
  exact ⟨((Below.refl _ _).alloc (Nat.le_refl _) _).alloc (by simp) _, h1.belowAll ((Below.refl _ _).alloc (Nat.le_refl _) _), h2, by simp⟩
theorem St0.more {t t2 : TypeId} {rb : Nat} {v : Value} {b : Bool} {w w2 w3 : World} (h : St0 t t2 rb v b w w2) (hb : Below (rb + 2) w2 w3) : St0 t t2 rb v b w w3 :=
  ⟨h.below.trans (hb.mono (by omega)), h.r.below hb (by omega), h.q.below hb (by omega), Nat.le_trans h.size hb.size⟩
/-- append upon a new one -/
theorem below_grew {base B : Nat} {T : TypeId} {v v' : Value} {n : Nat} {out : List Value} {w0 w w' : World} (h : Below B w0 w) (g : U.Grew base T 3 v n out w v' w') (hown : ∀ q, v.ownBlock = some q → B ≤ q) (hs : B ≤ w.heap.size) : Below B w0 w' := h.grown g.grown hs hown
end Go.Proofs.Ytjlljkdlgkociaa.K

/- The contracts of the program's cells and Put. -/
namespace Go.Proofs.Ytjlljkdlgkociaa.K
open Go.RowKit

end Go.Proofs.Ytjlljkdlgkociaa.K

/- The contract of the program's Put. -/
namespace Go.Proofs.Ytjlljkdlgkociaa.K
open Go.RowKit

end Go.Proofs.Ytjlljkdlgkociaa.K

/- The contract of the program's Erase. -/
namespace Go.Proofs.Ytjlljkdlgkociaa.K
open Go.RowKit

end Go.Proofs.Ytjlljkdlgkociaa.K

/- The contracts of slices.Grow of none, and of slices.Concat, at cells. -/
namespace Go.Proofs.Ytjlljkdlgkociaa.K
open Go.RowKit

end Go.Proofs.Ytjlljkdlgkociaa.K

/- The contract of the program's some; slices of cells, as they are put together. -/
namespace Go.Proofs.Ytjlljkdlgkociaa.K
open Go.RowKit

/-- a slice of these cells -/
def SegAt (v : Value) (l : List Cel) (w : World) : Prop := ∃ x n c, v = .slice x n c ∧ CelsIn .i32 x n l w ∧ (x = none → c = 0) ∧ n ≤ c
theorem SegAt.belowAll {v : Value} {l : List Cel} {w w' : World} (h : SegAt v l w) (hb : Below w.heap.size w w') : SegAt v l w' := by
  obtain ⟨x, n, c, rfl, h1, h2, h3⟩ := h
  exact ⟨x, n, c, rfl, h1.belowAll hb, h2, h3⟩
theorem CelsIn.dropOf {rk : IntKind} {a : Option Addr} {n : Nat} {l : List Cel} {w : World} (h : CelsIn rk a n l w) {k : Nat} (hk : k ≤ n) (c : Nat) (hc : n ≤ c) : CelsIn rk (if c = k then a else a.map (fun x => x.add (k * 3))) (n - k) (l.drop k) w := by
  have hl := h.len
  rcases h.at_ with e | ⟨b, off, ha, hb, hi⟩
  · refine ⟨by rw [List.length_drop]; omega, .inl (by rw [e]; simp)⟩
  · by_cases hck : c = k
    · rw [if_pos hck]
      refine ⟨by rw [List.length_drop]; omega, .inl (List.eq_nil_of_length_eq_zero (by rw [List.length_drop]; omega))⟩
    · rw [if_neg hck, ha]
      have hadd : ((⟨b, off, none⟩ : Addr).add (k * 3)) = ⟨b, off + k * 3, none⟩ := by unfold Addr.add; split <;> simp_all
      show CelsIn rk (some ((⟨b, off, none⟩ : Addr).add (k * 3))) _ _ _
      rw [hadd]
      rw [ha] at h
      exact CelsIn.drop h hk
theorem SegAt.cut {a : Option Addr} {n c : Nat} {l : List Cel} {w : World} (h : CelsIn .i32 a n l w) (h0 : a = none → c = 0) (hc : n ≤ c) {lo hi : Nat} (h1 : lo ≤ hi) (h2 : hi ≤ n) : SegAt (.slice (if c = lo then a else a.map (fun x => x.add (lo * 3))) (hi - lo) (c - lo)) ((l.take hi).drop lo) w := by
  refine ⟨_, _, _, rfl, (h.take h2).dropOf h1 c (by omega), fun e => ?_, by omega⟩
  split at e
  · omega
  · cases a with
    | none => have := h0 rfl; omega
    | some x => cases e
theorem SegAt.front {a : Option Addr} {n c : Nat} {l : List Cel} {w : World} (h : CelsIn .i32 a n l w) (h0 : a = none → c = 0) (hc : n ≤ c) {hi : Nat} (h2 : hi ≤ n) : SegAt (.slice a hi c) (l.take hi) w := ⟨_, _, _, rfl, h.take h2, h0, by omega⟩
theorem SegAt.back {a : Option Addr} {n c : Nat} {l : List Cel} {w : World} (h : CelsIn .i32 a n l w) (h0 : a = none → c = 0) (hc : n ≤ c) {lo : Nat} (h1 : lo ≤ n) : SegAt (.slice (if c = lo then a else a.map (fun x => x.add (lo * 3))) (n - lo) (c - lo)) (l.drop lo) w := by
  have := SegAt.cut h h0 hc h1 (Nat.le_refl n)
  rw [List.take_of_length_le (Nat.le_of_eq h.len.symm)] at this
  exact this
end Go.Proofs.Ytjlljkdlgkociaa.K

/- The contracts of the program's Insert and Delete. -/
namespace Go.Proofs.Ytjlljkdlgkociaa.K
open Go.RowKit

end Go.Proofs.Ytjlljkdlgkociaa.K

/- The contract of the program's Fill. -/
namespace Go.Proofs.Ytjlljkdlgkociaa.K
open Go.RowKit

end Go.Proofs.Ytjlljkdlgkociaa.K

/- The contract of the program's Resize. -/
namespace Go.Proofs.Ytjlljkdlgkociaa.K
open Go.RowKit

end Go.Proofs.Ytjlljkdlgkociaa.K
