/- TidewrackHand: lines that are wanted, by spans, at hand in a cache with room, cut into rows and joined, are those lines: the walk. -/
import Derived.Test.YtkdkhphpknnceaaDoorFJoin
import Derived.Test.YtkdkhphpknnceaaDoorMerged10
namespace Go.Proofs.YtkdkhphpknnceaaDoor.C
open Go.RowKit Go.Maps Go.Proofs.YtkdkhphpknnceaaDoor.H
open Go.Proofs.YtkdkhphpknnceaaDoor.W (Tab)

/-- the lines as they are put -/
def rowH (Ls : List LArg) (N : Nat) : List Ent := (List.range N).map fun (i : Nat) => ((i : Int), ((Ls.getD i ⟨none, 0, 0, []⟩).g).take 30)
theorem rowH_len (Ls : List LArg) (N : Nat) : (rowH Ls N).length = N := by simp [rowH]
theorem rowH_row (Ls : List LArg) (N : Nat) : InRow 0 (rowH Ls N) := fun k x h => by
  have hk : k < N := by have := (List.getElem?_eq_some_iff.1 h).1; rwa [rowH_len] at this
  unfold rowH at h
  simp [hk] at h
  rw [← h]
  simp
theorem rowH_at {Ls : List LArg} {N k : Nat} {A : LArg} (hk : k < N) (hA : Ls[k]? = some A) : (rowH Ls N)[k]? = some ((k : Int), A.g.take 30) := by
  unfold rowH
  simp [hk, List.getD_eq_getElem?_getD, hA]
theorem take_same30 {g : List (Int × Int)} {n q : Nat} (hn : n = g.length) (hq : min n 30 = q) : g.take q = g.take 30 := by
  by_cases h : n ≤ 30
  · rw [List.take_of_length_le (by omega), List.take_of_length_le (by omega)]
  · rw [show q = 30 by omega]
/-- what is in a list by its number -/
theorem find_in : ∀ {L : List Ent} {x : Ent}, (L.map (·.1)).Nodup → x ∈ L → findC L x.1 = some x.2
  | [], _, _, h => by cases h
  | y :: L, x, hn, h => by
    by_cases e : y.1 = x.1
    · rcases List.mem_cons.1 h with rfl | h
      · unfold findC
        rw [List.find?_cons]
        simp
      · exact absurd (List.mem_map.2 ⟨x, h, e.symm⟩) (List.nodup_cons.1 hn).1
    · have h2 : x ∈ L := (List.mem_cons.1 h).resolve_left (fun e2 => e (by rw [e2]))
      have ih := find_in (List.nodup_cons.1 hn).2 h2
      unfold findC at ih ⊢
      rw [List.find?_cons]
      have e3 : (y.1 == x.1) = false := by simpa using e
      rw [e3]
      exact ih
theorem get_perm {x : Ca} {A : List Ent} {e : Ent} (hp : x.L.Perm A) (hn : (A.map (·.1)).Nodup) (he : e ∈ A) : findC x.L e.1 = some e.2 ∧ (getC x e.1).L.Perm A := by
  have hnx : (x.L.map (·.1)).Nodup := (hp.map _).nodup_iff.2 hn
  have hex : e ∈ x.L := hp.mem_iff.2 he
  have hf := find_in hnx hex
  refine ⟨hf, ?_⟩
  have eg : (getC x e.1).L = dropC x.L e.1 ++ [(e.1, e.2)] := by
    unfold getC
    rw [hf]
  obtain ⟨B, C, hBC⟩ := List.append_of_mem hex
  rw [eg, hBC, drop_one (by rw [← hBC]; exact hnx)]
  refine List.Perm.trans ?_ (show (B ++ e :: C).Perm A by rw [← hBC]; exact hp)
  rw [List.append_assoc]
  exact List.Perm.append_left B (List.perm_append_singleton e C)
theorem KC.get {c : Nat} {x : Ca} {M0 : List Nat} {w0 w : World} (h : KC c x M0 w0 w) (i : Int) (hi : -9223372036854775808 ≤ i ∧ i ≤ 9223372036854775807) :
    Calls Tryd.prog 10 #[.pointer (some ⟨c, 0, none⟩), .int .i64 i] w fun r w' => ∃ a cc, r = .returned (.tuple #[.slice a ((findC x.L i).getD []).length cc, .bool (findC x.L i).isSome]) ∧ PairsIn .i32 a ((findC x.L i).getD []).length cc ((findC x.L i).getD []) w' ∧ (a = none → cc = 0) ∧ KC c (getC x i) M0 w0 w' := by
  obtain ⟨M, G, h1, h2, h3⟩ := h
  refine (get_any i hi w h1).mono ?_
  rintro r w' ⟨v, rfl, h4, h5, h6⟩
  obtain ⟨a, cc, rfl, h7, hnil, h8⟩ := h4.shape
  exact ⟨a, cc, rfl, h7, hnil, M, G, h5, ⟨h6.os.trans h2.os, h6.tape.trans h2.tape, h6.output.trans h2.output, Nat.le_trans h2.size h6.size, fun p hp hm => (h6.block p (Nat.lt_of_lt_of_le hp h2.size) (fun h9 => (h3 p h9).elim hm (fun h => by omega))).trans (h2.block p hp hm)⟩, h3⟩
theorem KC.len {c : Nat} {x : Ca} {M0 : List Nat} {w0 w : World} (h : KC c x M0 w0 w) : Calls Tryd.prog 12 #[.pointer (some ⟨c, 0, none⟩)] w fun r w' => r = .returned (.int .i64 (x.L.length : Int)) ∧ w' = w := by
  obtain ⟨M, G, h1, -⟩ := h
  exact len_any w h1
/-- the cache with all of A's lines, from a world on -/
def HaC (c : Nat) (A : List Ent) (M0 : List Nat) (w0 w : World) : Prop := ∃ y, KC c y M0 w0 w ∧ y.L.Perm A
theorem HaC.below {c : Nat} {A : List Ent} {M0 : List Nat} {w0 w w' : World} (h : HaC c A M0 w0 w) (hb : Below w.heap.size w w') : HaC c A M0 w0 w' := by
  obtain ⟨y, h1, h2⟩ := h
  exact ⟨y, h1.below hb, h2⟩
theorem HaC.get {c : Nat} {A : List Ent} {M0 : List Nat} {w0 w : World} (h : HaC c A M0 w0 w) (hn : (A.map (·.1)).Nodup) {i : Int} {g : List (Int × Int)} (he : (i, g) ∈ A) (hi : -9223372036854775808 ≤ i ∧ i ≤ 9223372036854775807) :
    Calls Tryd.prog 10 #[.pointer (some ⟨c, 0, none⟩), .int .i64 i] w fun r w' => ∃ a cc, r = .returned (.tuple #[.slice a g.length cc, .bool true]) ∧ PairsIn .i32 a g.length cc g w' ∧ (a = none → cc = 0) ∧ HaC c A M0 w0 w' := by
  obtain ⟨y, h1, h2⟩ := h
  obtain ⟨e1, e2⟩ := get_perm h2 hn he
  refine (h1.get i hi).mono ?_
  rintro r w' ⟨a, cc, rfl, h3, h4, h5⟩
  rw [show findC y.L i = some g from e1] at h3 ⊢
  exact ⟨a, cc, rfl, h3, h4, _, h5, e2⟩
theorem HaC.keep {c : Nat} {A : List Ent} {M0 : List Nat} {w0 w : World} (h : HaC c A M0 w0 w) : KeepB M0 w0 w := by
  obtain ⟨y, h1, -⟩ := h
  exact h1.keep
theorem HaC.fresh {c : Nat} {A : List Ent} {M0 : List Nat} {w0 w w5 : World} (h : HaC c A M0 w0 w) (hb : Below w.heap.size w w5) : ∃ Mi, (∀ p ∈ Mi, p < w.heap.size) ∧ HaC c A Mi w5 w5 ∧ KeepB M0 w0 w5 ∧ ∀ p ∈ Mi, p ∈ M0 ∨ w0.heap.size ≤ p := by
  obtain ⟨y, ⟨M, G, h1, h2, h3⟩, h4⟩ := h
  exact ⟨M, h1.lt.1, ⟨y, ⟨M, G, h1.below hb, KeepB.refl _ _, fun p hp => .inl hp⟩, h4⟩, h2.trans (KeepB.of_below hb), h3⟩
theorem HaC.nest {c : Nat} {A : List Ent} {M0 Mi : List Nat} {w0 w5 w : World} (h : HaC c A Mi w5 w) (hk : KeepB M0 w0 w5) (hM : ∀ p ∈ Mi, p ∈ M0 ∨ w0.heap.size ≤ p) : HaC c A M0 w0 w := by
  obtain ⟨y, h1, h2⟩ := h
  exact ⟨y, h1.nest hk hM, h2⟩
/-- what is wanted of the numbers below N -/
def wantH (F E : Nat) : List Sp := if F < E then [((F : Int), (E : Int))] else []
theorem hand_in {T : List Sp} (h : Nm T) {F Z N E : Nat} (hm : ∀ v, mem v T ↔ 0 ≤ v ∧ v < (N : Int)) (hF : F ≤ 31) (hZ : Z ≤ 31) (hE : min Z N = E) : inS T ((F : Int), (Z : Int)) = wantH F E := by
  have hin : ∀ x ∈ wantH F E, x = ((F : Int), (E : Int)) ∧ F < E := fun x hx => by
    unfold wantH at hx
    split at hx
    · exact ⟨by simpa using hx, by assumption⟩
    · cases hx
  have hw : Nm (wantH F E) := by
    unfold wantH
    split
    · rename_i h9
      refine ⟨⟨by show lo ≤ (F : Int); unfold lo; omega, by show (F : Int) < E; omega, trivial⟩, fun x hx => ?_⟩
      rw [show x = ((F : Int), (E : Int)) by simpa using hx]
      show (E : Int) ≤ hi
      unfold H.hi
      omega
    · exact Nm.nil
  refine Nm.ext (h.in_ _) hw (fun v => ?_)
  have hc : cnt ((F : Int), (Z : Int)) = (((F : Int), (Z : Int)) : Sp) := by
    unfold cnt near lo H.hi
    have e1 : min (max (F : Int) (-1152921504606846976)) 1152921504606846976 = F := by omega
    have e2 : min (max (Z : Int) (-1152921504606846976)) 1152921504606846976 = Z := by omega
    show (min (max (F : Int) (-1152921504606846976)) 1152921504606846976, min (max (Z : Int) (-1152921504606846976)) 1152921504606846976) = _
    rw [e1, e2]
  rw [inS_mem v h, hc, hm]
  unfold inx wantH
  show ((F : Int) ≤ v ∧ v < Z) ∧ _ ↔ _
  by_cases h9 : F < E
  · rw [if_pos h9]
    simp only [mem, or_false]
    unfold inx
    show _ ↔ (F : Int) ≤ v ∧ v < E
    omega
  · rw [if_neg h9]
    simp only [mem, iff_false]
    omega
theorem wantH_tot (F E : Nat) : tot (wantH F E) = max 0 ((E : Int) - F) := by
  unfold wantH
  split
  · show ((E : Int) - F) + 0 = _
    omega
  · show (0 : Int) = _
    omega
theorem gset2 (w : World) (p : Nat) (x y : Value) : w.grownBy ((w.setCell ⟨p, 0, none⟩ x).setCell ⟨p, 1, none⟩ y) (some p) :=
  ⟨rfl, rfl, rfl, Nat.le_trans (KeepsWalks.setCell w _ x).size (KeepsWalks.setCell _ _ y).size, fun i _ hi => (Below.heap_setCell _ _ _ i (fun e => hi (by rw [e]))).trans (Below.heap_setCell _ _ _ i (fun e => hi (by rw [e])))⟩
/-- region 1: the range's array -/
def HaS (w0 w1 w2 : World) : Nat → (Nat → Value) → World → Prop
  | 0, _, u => EqD w0 u
  | 1, _, u => EqD w1 u
  | _, _, u => EqD w2 u
theorem HaS.cong {w0 w1 w2 : World} {k : Nat} {f f2 : Nat → Value} {u : World} (h : HaS w0 w1 w2 k f u) : HaS w0 w1 w2 k f2 u := by
  match k, h with
  | 0, h => exact h
  | 1, h => exact h
  | _ + 2, h => exact h
theorem HaS.block {w0 w1 w2 : World} {b : Nat} {o : Obj} {k : Nat} {f : Nat → Value} {u : World} (hb : w0.heap[b]? = some o ∧ w1.heap[b]? = some o ∧ w2.heap[b]? = some o) (h : HaS w0 w1 w2 k f u) : u.heap[b]? = some o := by
  match k, h with
  | 0, h => exact (EqD.block h b).trans hb.1
  | 1, h => exact (EqD.block h b).trans hb.2.1
  | _ + 2, h => exact (EqD.block h b).trans hb.2.2
theorem HaS.zero {w0 w1 w2 : World} {f : Nat → Value} {u : World} (h : HaS w0 w1 w2 0 f u) : EqD w0 u := h
theorem HaS.one {w0 w1 w2 : World} {f : Nat → Value} {u : World} (h : HaS w0 w1 w2 1 f u) : EqD w1 u := h
theorem EqD.alloc {w w' : World} (h : EqD w w') (o : Obj) : EqD (w.alloc o) (w'.alloc o) := ⟨h.os, h.tape, h.output, by unfold World.alloc; rw [h.heap]⟩
def HaOk1 (hb xb : Nat) (a0 : Option Addr) (n lc : Nat) (m1 m2 m3 : Int) : Nat → Value → World → Prop
  | 0, u, _ => u = .pointer (some ⟨hb, 0, none⟩)
  | 1, u, _ => u = .slice a0 n lc
  | 2, u, _ => u = .pointer (some ⟨hb, 1, none⟩)
  | 3, u, _ => u = .int .i64 m1
  | 4, u, _ => u = .pointer (some ⟨hb, 2, none⟩)
  | 5, u, _ => u = .int .i64 m2
  | 6, u, _ => u = .agg #[.int .i64 m1, .int .i64 m2]
  | 7, u, _ => u = .pointer (some ⟨hb, 3, none⟩)
  | 8, u, _ => u = .int .i64 m3
  | 9, u, _ => u = .pointer (some ⟨xb, 0, none⟩)
  | 10, u, _ => u = .slice a0 n lc
  | 11, _, _ => True
  | 12, u, _ => u = .int .i64 m3
  | _, _, _ => True
def HaOk9 (c jx b off n lc q sn sc : Nat) (sa : Option Addr) : Nat → Value → World → Prop
  | 0, u, _ => u = .pointer (some ⟨c, 0, none⟩)
  | 1, u, _ => u = .int .i64 (jx : Int)
  | 2, u, _ => u = .slice (some ⟨b, off, none⟩) n lc
  | 3, u, _ => u = .int .i64 (jx : Int)
  | 4, u, _ => u = .pointer (some ⟨b, off + jx, none⟩)
  | 5, u, _ => u = .slice sa sn sc
  | 6, u, _ => u = .slice (some ⟨b, off, none⟩) n lc
  | 7, u, _ => u = .int .i64 (jx : Int)
  | 8, u, _ => u = .pointer (some ⟨b, off + jx, none⟩)
  | 9, u, _ => u = .slice sa sn sc
  | 10, u, _ => u = .int .i64 (sn : Int)
  | 11, u, _ => u = .int .i64 (q : Int)
  | 12, u, _ => u = .slice sa q sc
  | 13, u, _ => u = .tuple #[.int .i64 0, .bool false]
  | _, _, _ => True
def HaOk30 (gb go q ca lb lo n lc wb wo sn sc zi kk : Nat) (zr sy : Int) : Nat → Value → World → Prop
  | 0, u, _ => u = .slice (some ⟨gb, go, none⟩) q ca
  | 1, u, _ => u = .int .i64 (kk : Int)
  | 2, u, _ => u = .pointer (some ⟨gb, go + kk * 2, none⟩)
  | 3, u, _ => u = .agg #[.int .i32 zr, .int .i64 sy]
  | 4, u, _ => u = .slice (some ⟨lb, lo, none⟩) n lc
  | 5, u, _ => u = .int .i64 (zi : Int)
  | 6, u, _ => u = .pointer (some ⟨lb, lo + zi, none⟩)
  | 7, u, _ => u = .slice (some ⟨wb, wo, none⟩) sn sc
  | 8, u, _ => u = .int .i64 (kk : Int)
  | 9, u, _ => u = .pointer (some ⟨wb, wo + kk * 2, none⟩)
  | 10, u, _ => u = .agg #[.int .i32 zr, .int .i64 sy]
  | 11, u, _ => u = .bool false
  | _, _, _ => True
set_option maxRecDepth 100000 in
set_option maxHeartbeats 16000000 in
theorem hand_walk (a0 : Option Addr) (n lc : Nat) (Ls : List LArg) (m1 m2 m3 : Int) (hm1 : -9223372036854775808 ≤ m1 ∧ m1 ≤ 9223372036854775807) (hm2 : -9223372036854775808 ≤ m2 ∧ m2 ≤ 9223372036854775807) (W : World) (h : LArgsIn a0 n lc Ls W) (hTb : Tab W) :
    Calls Tryd.prog 3 #[.agg #[.slice a0 n lc, .int .i64 m1, .int .i64 m2, .int .i64 m3]] W (AwkPost W) := by
  obtain ⟨P, hP⟩ : ∃ P, AwkPost W = P := ⟨_, rfl⟩
  rw [hP]
  have HP := Lib.hid hP
  have HTab := Lib.hid hTb
  obtain ⟨F, hF0, hF31⟩ := and_small m1 31 (by decide)
  have hF : bits .and .i64 m1 31 = (F : Int) := hF0
  obtain ⟨Z, hZ0, hZ31⟩ := and_small m2 31 (by decide)
  have hZ : bits .and .i64 m2 31 = (Z : Int) := hZ0
  have hnc := h.fit
  have htop := h.top
  obtain ⟨N, hN⟩ : ∃ N, min n 20 = N := ⟨_, rfl⟩
  have hNI : min (n : Int) 20 = (N : Int) := by omega
  have hN20 : N ≤ 20 := by omega
  have hNn : N ≤ n := by omega
  obtain ⟨A, hA⟩ : ∃ A, rowH Ls N = A := ⟨_, rfl⟩
  have HRow : Hid (InRow 0 A ∧ A.length = N) := Lib.hid ⟨by rw [← hA]; exact rowH_row _ _, by rw [← hA]; exact rowH_len _ _⟩
  have HAt : Hid (∀ k A9, k < N → Ls[k]? = some A9 → A[k]? = some ((k : Int), A9.g.take 30)) := Lib.hid (fun k A9 h1 h2 => by rw [← hA]; exact rowH_at h1 h2)
  -- the box, and the array
  obtain ⟨hb, hhb⟩ : ∃ hb, W.heap.size = hb := ⟨_, rfl⟩
  obtain ⟨wh, hwh⟩ : ∃ wh, W.alloc (.cells #[.slice a0 n lc, .int .i64 m1, .int .i64 m2, .int .i64 m3] 24) = wh := ⟨_, rfl⟩
  have hbh : Below W.heap.size W wh := by rw [← hwh]; exact alloc_below _ _
  have hx0 : wh.heap[hb]? = some (.cells #[.slice a0 n lc, .int .i64 m1, .int .i64 m2, .int .i64 m3] 24 (0, 0)) := by rw [← hwh, ← hhb]; exact heap_alloc_new _ _
  obtain ⟨xb, hxb⟩ : ∃ xb, wh.heap.size = xb := ⟨_, rfl⟩
  obtain ⟨wx, hwx⟩ : ∃ wx, wh.alloc (.cells #[.int .i64 0, .int .i64 0] 25) = wx := ⟨_, rfl⟩
  have hbx : Below wh.heap.size wh wx := by rw [← hwx]; exact alloc_below _ _
  have hxn : wx.heap[xb]? = some (.cells #[.int .i64 0, .int .i64 0] 25 (0, 0)) := by rw [← hwx, ← hxb]; exact heap_alloc_new _ _
  obtain ⟨wy, hwy⟩ : ∃ wy, (wx.setCell ⟨xb, 0, none⟩ (.int .i64 m1)).setCell ⟨xb, 1, none⟩ (.int .i64 m2) = wy := ⟨_, rfl⟩
  have hgy : wx.grownBy wy (some xb) := by rw [← hwy]; exact gset2 wx xb _ _
  have hxy : wy.heap[xb]? = some (.cells #[.int .i64 m1, .int .i64 m2] 25 (0, 0)) := by rw [← hwy]; simp [World.setCell, Array.getElem?_modify, hxn]
  have hlt : hb < xb := by rw [← hxb]; exact (Array.getElem?_eq_some_iff.1 hx0).1
  have hx1 : wx.heap[hb]? = some (.cells #[.slice a0 n lc, .int .i64 m1, .int .i64 m2, .int .i64 m3] 24 (0, 0)) := (hbx.block hb (by rw [hxb]; exact hlt)).trans hx0
  have hx2 : wy.heap[hb]? = some (.cells #[.slice a0 n lc, .int .i64 m1, .int .i64 m2, .int .i64 m3] 24 (0, 0)) := (hgy.block hb (Nat.lt_of_lt_of_le (by rw [hxb]; exact hlt) hbx.size) (by intro e; injection e with e; omega)).trans hx1
  have hbWy : Below W.heap.size W wy := (hbh.trans (hbx.mono hbh.size)).grown hgy (Nat.le_trans hbh.size hbx.size) (fun p hp => by cases hp; rw [← hxb]; exact hbh.size)
  have HBlk : Hid (wh.heap[hb]? = some (.cells #[.slice a0 n lc, .int .i64 m1, .int .i64 m2, .int .i64 m3] 24 (0, 0)) ∧ wx.heap[hb]? = some (.cells #[.slice a0 n lc, .int .i64 m1, .int .i64 m2, .int .i64 m3] 24 (0, 0)) ∧ wy.heap[hb]? = some (.cells #[.slice a0 n lc, .int .i64 m1, .int .i64 m2, .int .i64 m3] 24 (0, 0))) := Lib.hid ⟨hx0, hx1, hx2⟩
  have HXb := Lib.hid hxb
  have HXn := Lib.hid hxn
  have HWx := Lib.hid hwx
  have HWy := Lib.hid hwy
  have HXy := Lib.hid hxy
  have HBy := Lib.hid hbWy
  have HHb := Lib.hid hhb
  have HWh := Lib.hid hwh
  have HArg := Lib.hid h
  clear hP hTb h hF0 hZ0 hN hA hhb hwh hbh hx0 hxb hwx hbx hxn hwy hgy hxy hlt hx1 hx2 hbWy
  go_enter Tryd.func3, Tryd.ntmps3
  go_upto_region 1 with fail
  rw [HWh.out, HHb.out]
  refine Go.Proofs.YtkdkhphpknnceaaDoor.R.wp_region_due [9, 11] [1, 1, 1, 1, 1, 1, 1, 2, 2, 1, 1, 2, 2] (by kernel_rfl) (HaS wh wx wy) (fun _ _ => True) (HaOk1 hb xb a0 n lc m1 m2 m3) (by rfl) (by kernel_rfl) (by kernel_rfl) (by kernel_rfl) (by kernel_rfl) ?hcong ?hOk ?hop ?hdone ?h0
  case hcong => exact fun k f f2 u hs hst => HaS.cong hst
  case hOk => intro i u w1 w2 h hr; unfold HaOk1 at h ⊢; split <;> first | exact True.intro | exact h
  case h0 => exact (EqD.refl wh).drew
  case hop =>
    refine ⟨?_, ?_, ?_, ?_, ?_, ?_, ?_, ?_, ?_, ?_, ?_, ?_, ?_, trivial⟩
    · intro k z v hk hst hag hdep
      refine .inl ⟨rfl, fun K hK => ?_⟩
      have d1 : z.tmps.getD 1 undef = .pointer (some ⟨hb, 0, none⟩) := hag.2.2 1 (by kernel_rfl)
      have e1 := d1
      rw [Array.getD_eq_getD_getElem?] at e1
      have HSt := Lib.hid hst
      clear hdep hag hst
      go_simp
      exact hK _ _ trivial rfl HSt.out
    · intro k z v hk hst hag hdep
      refine .inl ⟨rfl, fun K hK => ?_⟩
      have d18 : z.tmps.getD 18 undef = .pointer (some ⟨hb, 0, none⟩) := hdep { on := 0, ground := .data } (by simp) rfl _ _ rfl rfl
      have e18 := d18
      rw [Array.getD_eq_getD_getElem?] at e18
      have l0 : v.cell? ⟨hb, 0, none⟩ = some (.slice a0 n lc) := by rw [cell_block (HaS.block HBlk.out hst)]; rfl
      have HSt := Lib.hid hst
      clear hdep hag hst hk
      go_simp
      exact hK _ _ trivial rfl HSt.out
    · intro k z v hk hst hag hdep
      refine .inl ⟨rfl, fun K hK => ?_⟩
      have d1 : z.tmps.getD 1 undef = .pointer (some ⟨hb, 0, none⟩) := hag.2.2 1 (by kernel_rfl)
      have e1 := d1
      rw [Array.getD_eq_getD_getElem?] at e1
      have HSt := Lib.hid hst
      clear hdep hag hst
      go_simp
      exact hK _ _ trivial rfl HSt.out
    · intro k z v hk hst hag hdep
      refine .inl ⟨rfl, fun K hK => ?_⟩
      have d20 : z.tmps.getD 20 undef = .pointer (some ⟨hb, 1, none⟩) := hdep { on := 2, ground := .data } (by simp) rfl _ _ rfl rfl
      have e20 := d20
      rw [Array.getD_eq_getD_getElem?] at e20
      have l0 : v.cell? ⟨hb, 1, none⟩ = some (.int .i64 m1) := by rw [cell_block (HaS.block HBlk.out hst)]; rfl
      have HSt := Lib.hid hst
      clear hdep hag hst hk
      go_simp
      exact hK _ _ trivial rfl HSt.out
    · intro k z v hk hst hag hdep
      refine .inl ⟨rfl, fun K hK => ?_⟩
      have d1 : z.tmps.getD 1 undef = .pointer (some ⟨hb, 0, none⟩) := hag.2.2 1 (by kernel_rfl)
      have e1 := d1
      rw [Array.getD_eq_getD_getElem?] at e1
      have HSt := Lib.hid hst
      clear hdep hag hst
      go_simp
      exact hK _ _ trivial rfl HSt.out
    · intro k z v hk hst hag hdep
      refine .inl ⟨rfl, fun K hK => ?_⟩
      have d22 : z.tmps.getD 22 undef = .pointer (some ⟨hb, 2, none⟩) := hdep { on := 4, ground := .data } (by simp) rfl _ _ rfl rfl
      have e22 := d22
      rw [Array.getD_eq_getD_getElem?] at e22
      have l0 : v.cell? ⟨hb, 2, none⟩ = some (.int .i64 m2) := by rw [cell_block (HaS.block HBlk.out hst)]; rfl
      have HSt := Lib.hid hst
      clear hdep hag hst hk
      go_simp
      exact hK _ _ trivial rfl HSt.out
    · intro k z v hk hst hag hdep
      refine .inl ⟨rfl, fun K hK => ?_⟩
      have d21 : z.tmps.getD 21 undef = .int .i64 m1 := hdep { on := 3, ground := .data } (by simp) rfl _ _ rfl rfl
      have e21 := d21
      rw [Array.getD_eq_getD_getElem?] at e21
      have d23 : z.tmps.getD 23 undef = .int .i64 m2 := hdep { on := 5, ground := .data } (by simp) rfl _ _ rfl rfl
      have e23 := d23
      rw [Array.getD_eq_getD_getElem?] at e23
      have HSt := Lib.hid hst
      clear hdep hag hst
      go_simp
      exact hK _ _ trivial rfl HSt.out
    · intro k z v hk hst hag hdep
      refine .inl ⟨rfl, fun K hK => ?_⟩
      have d1 : z.tmps.getD 1 undef = .pointer (some ⟨hb, 0, none⟩) := hag.2.2 1 (by kernel_rfl)
      have e1 := d1
      rw [Array.getD_eq_getD_getElem?] at e1
      have HSt := Lib.hid hst
      clear hdep hag hst
      go_simp
      exact hK _ _ trivial rfl HSt.out
    · intro k z v hk hst hag hdep
      refine .inl ⟨rfl, fun K hK => ?_⟩
      have d25 : z.tmps.getD 25 undef = .pointer (some ⟨hb, 3, none⟩) := hdep { on := 7, ground := .data } (by simp) rfl _ _ rfl rfl
      have e25 := d25
      rw [Array.getD_eq_getD_getElem?] at e25
      have l0 : v.cell? ⟨hb, 3, none⟩ = some (.int .i64 m3) := by rw [cell_block (HaS.block HBlk.out hst)]; rfl
      have HSt := Lib.hid hst
      clear hdep hag hst hk
      go_simp
      exact hK _ _ trivial rfl HSt.out
    · intro z v hst hag hdep
      refine ⟨rfl, fun K hK => ?_⟩
      have hq := HaS.zero hst
      have HSz : Hid (v.heap.size = xb) := Lib.hid (by rw [hq.heap]; exact HXb.out)
      have HQ := Lib.hid hq
      clear hdep hag hst hq
      have HW9 : Hid (EqD wx (v.alloc (.cells #[.int .i64 0, .int .i64 0] 25))) := Lib.hid (by rw [← HWx.out]; exact EqD.alloc HQ.out _)
      go_simp
      rw [HSz.out]
      exact hK _ _ trivial rfl HW9.out
    · intro k z v hk hst hag hdep
      refine .inl ⟨rfl, fun K hK => ?_⟩
      have d19 : z.tmps.getD 19 undef = .slice a0 n lc := hdep { on := 1, ground := .data } (by simp) rfl _ _ rfl rfl
      have e19 := d19
      rw [Array.getD_eq_getD_getElem?] at e19
      have HSt := Lib.hid hst
      clear hdep hag hst
      go_simp
      exact hK _ _ trivial rfl HSt.out
    · intro z v hst hag hdep
      refine ⟨rfl, fun K hK => ?_⟩
      have d4 : z.tmps.getD 4 undef = .pointer (some ⟨xb, 0, none⟩) := hdep { on := 9, ground := .data } (by simp) rfl _ _ rfl rfl
      have e4 := d4
      rw [Array.getD_eq_getD_getElem?] at e4
      have d24 : z.tmps.getD 24 undef = .agg #[.int .i64 m1, .int .i64 m2] := hdep { on := 6, ground := .data } (by simp) rfl _ _ rfl rfl
      have e24 := d24
      rw [Array.getD_eq_getD_getElem?] at e24
      have hq := HaS.one hst
      have hz : v.heap[xb]? = some (.cells #[.int .i64 0, .int .i64 0] 25 (0, 0)) := by rw [hq.heap]; exact HXn.out
      have hz1 : (v.setCell ⟨xb, 0, none⟩ (.int .i64 m1)).heap[xb]? = some (.cells #[.int .i64 m1, .int .i64 0] 25 (0, 0)) := by simp [World.setCell, Array.getElem?_modify, hz]
      have s0 : v.cell? ⟨xb, 0, none⟩ = some (.int .i64 0) := by rw [cell_block hz]; rfl
      have s1 : (v.setCell ⟨xb, 0, none⟩ (.int .i64 m1)).cell? ⟨xb, 1, none⟩ = some (.int .i64 0) := by rw [cell_block hz1]; rfl
      have g0 := frozen_block hz 0
      have g1 := frozen_block hz1 1
      have HQ := Lib.hid hq
      clear hdep hag hst hq hz hz1
      have HW9 : Hid (EqD wy ((v.setCell ⟨xb, 0, none⟩ (.int .i64 m1)).setCell ⟨xb, 1, none⟩ (.int .i64 m2))) := Lib.hid (by rw [← HWy.out]; exact (HQ.out.set _ _).set _ _)
      go_simp
      exact hK undef _ trivial trivial HW9.out
    · intro k z v hk hst hag hdep
      refine .inl ⟨rfl, fun K hK => ?_⟩
      have d26 : z.tmps.getD 26 undef = .int .i64 m3 := hdep { on := 8, ground := .data } (by simp) rfl _ _ rfl rfl
      have e26 := d26
      rw [Array.getD_eq_getD_getElem?] at e26
      have HSt := Lib.hid hst
      clear hdep hag hst
      go_simp
      exact hK _ _ trivial rfl HSt.out
  case hdone =>
    intro z w1 hst hag hok
    have hq1 : EqD wy w1 := hst
    have d4 : z.tmps.getD 4 undef = .pointer (some ⟨xb, 0, none⟩) := hok 9 _ 4 rfl rfl
    have d3 : z.tmps.getD 3 undef = .slice a0 n lc := hok 10 _ 3 rfl rfl
    have d5 : z.tmps.getD 5 undef = .int .i64 m3 := hok 12 _ 5 rfl rfl
    have HB1 : Hid (Below W.heap.size W w1) := Lib.hid (HBy.out.trans (hq1.below.mono HBy.out.size))
    have HX1 : Hid (w1.heap[xb]? = some (.cells #[.int .i64 m1, .int .i64 m2] 25 (0, 0))) := Lib.hid ((hq1.block xb).trans HXy.out)
    clear hst hq1 HBlk HXb HXn HWx HWy HXy HBy
    obtain ⟨uu, hu, hzz⟩ := Go.Proofs.YtkdkhphpknnceaaDoor.R.agree_frame [18, 19, 20, 21, 22, 23, 24, 25, 26, 4, 3, 5] rfl hag
    have e3 := (hu 3).trans d3
    have e4 := (hu 4).trans d4
    have e5 := (hu 5).trans d5
    subst hzz
    simp only [List.foldl_cons, List.foldl_nil]
    rw [e3, e4, e5]
    clear e3 d3 e4 d4 e5 d5 hu hag hok
    try dsimp only [Exit.then]
    simp only [List.setIfInBounds_toArray, List.set_cons_succ, List.set_cons_zero]
    generalize uu 18 = u18', uu 19 = u19', uu 20 = u20', uu 21 = u21', uu 22 = u22', uu 23 = u23', uu 24 = u24', uu 25 = u25', uu 26 = u26'
    clear uu
    have HNw := Lib.hid (OneC.new 30 (by omega) w1 w1 (Below.refl _ _))
    go_wp2_with fail
    refine HNw.out.mono ?_
    rintro r w2 ⟨c, rfl, h2⟩
    rw [show (⟨mostN 30, []⟩ : Ca) = ⟨30, []⟩ from rfl] at h2
    have HT : Hid (OneC c ⟨30, A.take 0⟩ w1 w2) := Lib.hid h2
    have HCn := Lib.hid (Go.Proofs.YtkdkhphpknnceaaDoor.F.cut_any none 0 0 [] 2 w2 (no_pairs _ _) (fun _ => rfl) ((HTab.out.belowAll HB1.out).belowAll h2.bel) (by decide))
    rw [show Go.Proofs.YtkdkhphpknnceaaDoor.F.cutR (Go.Proofs.YtkdkhphpknnceaaDoor.F.clampW 2) [] = [[]] by decide +kernel] at HCn
    clear h2 HNw
    go_wp2_with fail
    refine HCn.out.mono ?_
    rintro r w3 ⟨v3, us3, rfl, hus3, hsv3, hb3⟩
    obtain ⟨a3, c3, rfl, -⟩ := hus3.shape
    have hul3 : us3.length = 1 := hsv3.1
    rw [hul3]
    have HT3 : Hid (OneC c ⟨30, A.take 0⟩ w1 w3) := Lib.hid (HT.out.below hb3)
    clear hus3 hsv3 hul3 hb3 HCn HT
    go_wp2_with fail
    go_loopw [39] (fun i wr => ∃ jx : Nat, i = .int .i64 (jx : Int) ∧ jx ≤ N ∧ Hid (OneC c ⟨30, A.take jx⟩ w1 wr)) (fun i _ => N - (intOf i).toNat)
    case atStart => exact ⟨0, rfl, Nat.zero_le _, HT3⟩
    case round =>
      obtain ⟨jx, rfl, hj, HF⟩ := hrel
      clear HT3
      by_cases hlt : jx < N
      · have hd : decide (jx < N) = true := decide_eq_true hlt
        have hjI : (jx : Int) < N := by omega
        have hjn : (jx : Int) < n := by omega
        have hjc : jx < n := by omega
        obtain ⟨b, off, X, rfl, hb, hX, k0⟩ := HArg.out.one hjc
        have hsub := HArg.out.sub X (List.mem_of_getElem? hX)
        have hat := HAt.out jx X hlt hX
        obtain ⟨sa, sn, sc, g⟩ := X
        have hbW : Below W.heap.size W wr := HB1.out.trans (HF.out.bel.mono HB1.out.size)
        have k1 := (hbW.cell (p := ⟨b, off + jx, none⟩) hb).trans k0
        try simp only at k1
        obtain ⟨q, hq⟩ : ∃ q, min sn 30 = q := ⟨_, rfl⟩
        have hqI : min (sn : Int) 30 = (q : Int) := by omega
        have hp := hsub.1
        have hpl := hp.len
        have hfit := hp.fit
        have htp := hp.top
        simp only at hat hp hpl hfit htp
        have hpq := pairs_front hp (k := q) (by omega)
        rw [take_same30 hpl hq] at hpq
        have hqs : q ≤ sn := by omega
        have hqcI : (q : Int) ≤ sc := by omega
        have hqsI : (q : Int) ≤ sn := by omega
        have HPut : Hid (∀ v, EqD wr v → Calls Tryd.prog 6 #[.pointer (some ⟨c, 0, none⟩), .int .i64 (jx : Int), .slice sa q sc] v fun e w' => e = .returned (.tuple #[.int .i64 0, .bool false]) ∧ OneC c ⟨30, A.take (jx + 1)⟩ w1 w') := Lib.hid (fun v hqv => by
          have h9 := put_row (m := 30) HRow.out.1.nodup hat (by rw [HRow.out.2]; omega) ⟨by show (0 : Int) ≤ (jx : Int); omega, by show (jx : Int) ≤ _; omega⟩
          have h10 := (HF.out.below hqv.below).put (Below.refl _ _) (jx : Int) (by omega) sa q sc (g.take 30) (hpq.belowAll (hbW.trans (hqv.below.mono hbW.size))) hsub.2.1 (by rw [List.length_take]; omega) (fun hg0 p o e9 => .inl ?_)
          · rw [h9] at h10
            exact h10
          · rcases hpq.at_ with e8 | ⟨b8, o8, e8, hl8, -⟩
            · exact absurd e8 hg0
            · rw [e9] at e8
              injection e8 with e8
              injection e8 with e8
              rw [e8]
              exact Nat.lt_of_lt_of_le hl8 HB1.out.size)
        have HK0 : Hid (wr.cell? ⟨b, off + jx, none⟩ = some (.slice sa sn sc)) := Lib.hid k1
        clear hb hX k0 hsub hat hbW k1 hp hpl hpq htp hq
        go_upto_region 9 with fail
        refine Go.Proofs.YtkdkhphpknnceaaDoor.R.wp_region_due [13] [0, 0, 0, 0, 0, 0, 0, 0, 0, 0, 0, 0, 0, 1] (by kernel_rfl) (StR wr (fun u => OneC c ⟨30, A.take (jx + 1)⟩ w1 u)) (fun _ _ => True) (HaOk9 c jx b off n lc q sn sc sa) (by rfl) (by kernel_rfl) (by kernel_rfl) (by kernel_rfl) (by kernel_rfl) ?hcong ?hOk ?hop ?hdone ?h0
        case hcong => exact fun k f f2 u hs hst => StR.cong hst
        case hOk => intro i u w1 w2 h hr; unfold HaOk9 at h ⊢; split <;> first | exact True.intro | exact h
        case h0 => exact (EqD.refl wr).drew
        case hop =>
          refine ⟨?_, ?_, ?_, ?_, ?_, ?_, ?_, ?_, ?_, ?_, ?_, ?_, ?_, ?_, trivial⟩
          · intro k z v hk hst hag hdep
            refine .inl ⟨rfl, fun K hK => ?_⟩
            have d6 : z.tmps.getD 6 undef = .pointer (some ⟨c, 0, none⟩) := hag.2.2 6 (by kernel_rfl)
            have e6 := d6
            rw [Array.getD_eq_getD_getElem?] at e6
            have HSt := Lib.hid hst
            clear hdep hag hst
            go_simp
            exact hK _ _ trivial rfl HSt.out
          · intro k z v hk hst hag hdep
            refine .inl ⟨rfl, fun K hK => ?_⟩
            have d8 : z.tmps.getD 8 undef = .int .i64 (jx : Int) := hag.2.2 8 (by kernel_rfl)
            have e8 := d8
            rw [Array.getD_eq_getD_getElem?] at e8
            have HSt := Lib.hid hst
            clear hdep hag hst
            go_simp
            exact hK _ _ trivial rfl HSt.out
          · intro k z v hk hst hag hdep
            refine .inl ⟨rfl, fun K hK => ?_⟩
            have d3 : z.tmps.getD 3 undef = .slice (some ⟨b, off, none⟩) n lc := hag.2.2 3 (by kernel_rfl)
            have e3 := d3
            rw [Array.getD_eq_getD_getElem?] at e3
            have HSt := Lib.hid hst
            clear hdep hag hst
            go_simp
            exact hK _ _ trivial rfl HSt.out
          · intro k z v hk hst hag hdep
            refine .inl ⟨rfl, fun K hK => ?_⟩
            have d8 : z.tmps.getD 8 undef = .int .i64 (jx : Int) := hag.2.2 8 (by kernel_rfl)
            have e8 := d8
            rw [Array.getD_eq_getD_getElem?] at e8
            have HSt := Lib.hid hst
            clear hdep hag hst
            go_simp
            exact hK _ _ trivial rfl HSt.out
          · intro k z v hk hst hag hdep
            refine .inl ⟨rfl, fun K hK => ?_⟩
            have d44 : z.tmps.getD 44 undef = .slice (some ⟨b, off, none⟩) n lc := hdep { on := 2, ground := .data } (by simp) rfl _ _ rfl rfl
            have e44 := d44
            rw [Array.getD_eq_getD_getElem?] at e44
            have d45 : z.tmps.getD 45 undef = .int .i64 (jx : Int) := hdep { on := 3, ground := .data } (by simp) rfl _ _ rfl rfl
            have e45 := d45
            rw [Array.getD_eq_getD_getElem?] at e45
            have HSt := Lib.hid hst
            clear hdep hag hst
            go_simp
            exact hK _ _ trivial rfl HSt.out
          · intro k z v hk hst hag hdep
            refine .inl ⟨rfl, fun K hK => ?_⟩
            have d46 : z.tmps.getD 46 undef = .pointer (some ⟨b, off + jx, none⟩) := hdep { on := 4, ground := .data } (by simp) rfl _ _ rfl rfl
            have e46 := d46
            rw [Array.getD_eq_getD_getElem?] at e46
            obtain rfl : k = 0 := by have : k ≤ 0 := hk; omega
            have hq : EqD wr v := hst
            have l0 := (hq.cell _).trans HK0.out
            clear hq
            have HSt := Lib.hid hst
            clear hdep hag hst
            go_simp
            exact hK _ _ trivial rfl HSt.out
          · intro k z v hk hst hag hdep
            refine .inl ⟨rfl, fun K hK => ?_⟩
            have d3 : z.tmps.getD 3 undef = .slice (some ⟨b, off, none⟩) n lc := hag.2.2 3 (by kernel_rfl)
            have e3 := d3
            rw [Array.getD_eq_getD_getElem?] at e3
            have HSt := Lib.hid hst
            clear hdep hag hst
            go_simp
            exact hK _ _ trivial rfl HSt.out
          · intro k z v hk hst hag hdep
            refine .inl ⟨rfl, fun K hK => ?_⟩
            have d8 : z.tmps.getD 8 undef = .int .i64 (jx : Int) := hag.2.2 8 (by kernel_rfl)
            have e8 := d8
            rw [Array.getD_eq_getD_getElem?] at e8
            have HSt := Lib.hid hst
            clear hdep hag hst
            go_simp
            exact hK _ _ trivial rfl HSt.out
          · intro k z v hk hst hag hdep
            refine .inl ⟨rfl, fun K hK => ?_⟩
            have d48 : z.tmps.getD 48 undef = .slice (some ⟨b, off, none⟩) n lc := hdep { on := 6, ground := .data } (by simp) rfl _ _ rfl rfl
            have e48 := d48
            rw [Array.getD_eq_getD_getElem?] at e48
            have d49 : z.tmps.getD 49 undef = .int .i64 (jx : Int) := hdep { on := 7, ground := .data } (by simp) rfl _ _ rfl rfl
            have e49 := d49
            rw [Array.getD_eq_getD_getElem?] at e49
            have HSt := Lib.hid hst
            clear hdep hag hst
            go_simp
            exact hK _ _ trivial rfl HSt.out
          · intro k z v hk hst hag hdep
            refine .inl ⟨rfl, fun K hK => ?_⟩
            have d50 : z.tmps.getD 50 undef = .pointer (some ⟨b, off + jx, none⟩) := hdep { on := 8, ground := .data } (by simp) rfl _ _ rfl rfl
            have e50 := d50
            rw [Array.getD_eq_getD_getElem?] at e50
            obtain rfl : k = 0 := by have : k ≤ 0 := hk; omega
            have hq : EqD wr v := hst
            have l0 := (hq.cell _).trans HK0.out
            clear hq
            have HSt := Lib.hid hst
            clear hdep hag hst
            go_simp
            exact hK _ _ trivial rfl HSt.out
          · intro k z v hk hst hag hdep
            refine .inl ⟨rfl, fun K hK => ?_⟩
            have d51 : z.tmps.getD 51 undef = .slice sa sn sc := hdep { on := 9, ground := .data } (by simp) rfl _ _ rfl rfl
            have e51 := d51
            rw [Array.getD_eq_getD_getElem?] at e51
            have HSt := Lib.hid hst
            clear hdep hag hst
            go_simp
            exact hK _ _ trivial rfl HSt.out
          · intro k z v hk hst hag hdep
            refine .inl ⟨rfl, fun K hK => ?_⟩
            have d52 : z.tmps.getD 52 undef = .int .i64 (sn : Int) := hdep { on := 10, ground := .data } (by simp) rfl _ _ rfl rfl
            have e52 := d52
            rw [Array.getD_eq_getD_getElem?] at e52
            have HSt := Lib.hid hst
            clear hdep hag hst
            go_simp
            exact hK _ _ trivial rfl HSt.out
          · intro k z v hk hst hag hdep
            refine .inl ⟨rfl, fun K hK => ?_⟩
            have d47 : z.tmps.getD 47 undef = .slice sa sn sc := hdep { on := 5, ground := .data } (by simp) rfl _ _ rfl rfl
            have e47 := d47
            rw [Array.getD_eq_getD_getElem?] at e47
            have d53 : z.tmps.getD 53 undef = .int .i64 (q : Int) := hdep { on := 11, ground := .data } (by simp) rfl _ _ rfl rfl
            have e53 := d53
            rw [Array.getD_eq_getD_getElem?] at e53
            have HSt := Lib.hid hst
            clear hdep hag hst
            go_simp
            exact hK _ _ trivial rfl HSt.out
          · intro z v hst hag hdep
            refine ⟨rfl, fun K hK => ?_⟩
            have d42 : z.tmps.getD 42 undef = .pointer (some ⟨c, 0, none⟩) := hdep { on := 0, ground := .data } (by simp) rfl _ _ rfl rfl
            have e42 := d42
            rw [Array.getD_eq_getD_getElem?] at e42
            have d43 : z.tmps.getD 43 undef = .int .i64 (jx : Int) := hdep { on := 1, ground := .data } (by simp) rfl _ _ rfl rfl
            have e43 := d43
            rw [Array.getD_eq_getD_getElem?] at e43
            have d54 : z.tmps.getD 54 undef = .slice sa q sc := hdep { on := 12, ground := .data } (by simp) rfl _ _ rfl rfl
            have e54 := d54
            rw [Array.getD_eq_getD_getElem?] at e54
            have hq : EqD wr v := hst
            have HPu := Lib.hid (HPut.out v hq)
            clear hdep hag hst hq
            go_simp
            refine HPu.out.mono ?_
            rintro e w' ⟨rfl, h9⟩
            exact hK _ _ trivial rfl h9
        case hdone =>
          intro z w3 hst hag hok
          have h3 : OneC c ⟨30, A.take (jx + 1)⟩ w1 w3 := hst
          have H3 := Lib.hid h3
          clear hst h3
          obtain ⟨uu, hu, hzz⟩ := Go.Proofs.YtkdkhphpknnceaaDoor.R.agree_frame [42, 43, 44, 45, 46, 47, 48, 49, 50, 51, 52, 53, 54, 55] rfl hag

          subst hzz
          simp only [List.foldl_cons, List.foldl_nil]
          rw []
          clear  hu hag hok
          try dsimp only [Exit.then]
          simp only [List.setIfInBounds_toArray, List.set_cons_succ, List.set_cons_zero]
          generalize uu 42 = u42', uu 43 = u43', uu 44 = u44', uu 45 = u45', uu 46 = u46', uu 47 = u47', uu 48 = u48', uu 49 = u49', uu 50 = u50', uu 51 = u51', uu 52 = u52', uu 53 = u53', uu 54 = u54', uu 55 = u55'
          clear uu
          try dsimp only
          go_wp2_with fail
          go_roundw
          case rel => exact ⟨jx + 1, by go_num, by omega, H3⟩
          case measure => simp [intOf]; omega
      · have e9 : N = jx := by omega
        subst e9
        have hd : decide (N < N) = false := by simp
        rw [List.take_of_length_le (by rw [HRow.out.2]; exact Nat.le_refl _)] at HF
        obtain ⟨wc, hwc⟩ : ∃ wc, wc = wr := ⟨_, rfl⟩
        subst hwc
        have hone := HF.out
        have hbW : Below W.heap.size W wc := HB1.out.trans (hone.bel.mono HB1.out.size)
        obtain ⟨M0, G0, hC0, hM0, hbo⟩ := hone
        have hM0l := hC0.lt.1
        obtain ⟨ws, hws⟩ : ∃ ws, ws = wc.alloc (.cells #[.slice none 0 0] 34) := ⟨_, rfl⟩
        obtain ⟨s, hs⟩ : ∃ s, s = wc.heap.size := ⟨_, rfl⟩
        have hbs : Below wc.heap.size wc ws := by rw [hws]; exact alloc_below _ _
        have hSt : St s [s] [] ws := by rw [hs, hws]; exact St.new wc
        have HSp := Lib.hid (cspans_any ws (hC0.below hbs))
        have HSt := Lib.hid hSt
        have HC0 := Lib.hid hC0
        have HM0 : Hid (∀ p ∈ M0, w1.heap.size ≤ p ∧ p < wc.heap.size) := Lib.hid (fun p hp => ⟨hM0 p hp, hM0l p hp⟩)
        have HBW := Lib.hid hbW
        have HBo := Lib.hid hbo
        have HBs := Lib.hid hbs
        have HWs := Lib.hid hws
        have HSs := Lib.hid hs
        have HSz : Hid (s < ws.heap.size) := Lib.hid (hSt.lt s (by simp))
        clear hbW hC0 hM0 hM0l hbo hws hs hbs hSt HF hlt hj
        go_upto_region 12 with fail
        rw [← HWs.out, ← HSs.out]
        go_wp2_with fail
        refine HSp.out.mono ?_
        rintro r w4 ⟨v4, rfl, ho4, hb4⟩
        obtain ⟨a4, c4, rfl, hP4, hA4, -⟩ := ho4.shape
        obtain ⟨S, hS⟩ : ∃ S, spansC (⟨30, A⟩ : Ca).L = S := ⟨_, rfl⟩
        rw [hS] at hP4 ⊢
        have hnS : Nm S := by rw [← hS]; exact Nm.spansC ⟨30, A⟩
        have hpl : S.length ≤ 20 := by
          have h11 := spansC_len (⟨30, A⟩ : Ca)
          rw [hS] at h11
          have h12 := HRow.out.2
          have h13 : (⟨30, A⟩ : Ca).L.length = A.length := rfl
          omega
        have HAd := Lib.hid (add_any (l := []) a4 S.length c4 S w4 (HSt.out.below hb4) Nm.nil (by simp; omega) hP4 (fun g off e9 hm => by
          have h9 := (hA4 g off e9).1
          have h10 : g = s := by simpa using hm
          have h11 := HSz.out
          omega))
        rw [copy_eq hnS] at HAd
        have HMm : Hid (∀ v, mem v S ↔ 0 ≤ v ∧ v < (N : Int)) := Lib.hid (fun v => by
          rw [← hS, mem_spansC (x := ⟨30, A⟩) v (fun z hz => by have := (HRow.out.1.mem z).1 hz; have := HRow.out.2; omega)]
          have h9 := HRow.out.1.mem v
          rw [HRow.out.2, Int.zero_add] at h9
          exact h9)
        have HnS := Lib.hid hnS
        have HPl := Lib.hid hpl
        have HB4 := Lib.hid hb4
        clear ho4 hP4 hA4 hS hnS hpl hb4 HSp
        obtain ⟨Sn, hSn⟩ : ∃ n, S.length = n := ⟨_, rfl⟩
        rw [hSn] at HAd ⊢
        clear hSn
        go_wp2_with fail
        refine HAd.out.mono ?_
        rintro r w5 ⟨rfl, Ms, hS5, hK5, hM5⟩
        have hb5 : Below wc.heap.size wc w5 := by
          have h9 : Below wc.heap.size wc w4 := HBs.out.trans (HB4.out.mono HBs.out.size)
          exact hK5.below (fun p hp => by rw [show p = s by simpa using hp, HSs.out]; exact Nat.le_refl _) h9 h9.size
        -- what is wanted
        have hxr : w5.heap[xb]? = some (.cells #[.int .i64 m1, .int .i64 m2] 25 (0, 0)) := by
          have hl1 := (Array.getElem?_eq_some_iff.1 HX1.out).1
          rw [hb5.block xb (Nat.lt_of_lt_of_le hl1 HBo.out.size), HBo.out.block xb hl1]
          exact HX1.out
        have x0c := cell_block hxr 0
        have x1c := cell_block hxr 1
        obtain ⟨wa, hwa⟩ : ∃ wa, wa = w5.alloc (.cells #[.int .i64 (F : Int), .int .i64 (Z : Int)] 38) := ⟨_, rfl⟩
        obtain ⟨tb, htb⟩ : ∃ tb, tb = w5.heap.size := ⟨_, rfl⟩
        have hba : Below w5.heap.size w5 wa := by rw [hwa]; exact alloc_below _ _
        have hta : wa.heap[tb]? = some (.cells #[.int .i64 (F : Int), .int .i64 (Z : Int)] 38 (0, 0)) := by rw [hwa, htb]; exact heap_alloc_new _ _
        obtain ⟨vs5, hSv5⟩ := hS5
        have hIn := in_any (hSv5.below hba) HnS.out (by have := HPl.out; omega) ((F : Int), (Z : Int))
        obtain ⟨E, hE⟩ : ∃ E, min Z N = E := ⟨_, rfl⟩
        rw [hand_in HnS.out HMm.out hF31 hZ31 hE] at hIn
        have HIn := Lib.hid hIn
        have HBr : Hid (Below wc.heap.size wc wa) := Lib.hid (hb5.trans (hba.mono hb5.size))
        have HW5s : Hid (wc.heap.size ≤ w5.heap.size) := Lib.hid hb5.size
        have HWa := Lib.hid hwa
        have HTb := Lib.hid htb
        have HTa := Lib.hid hta
        have hEI : min (Z : Int) (N : Int) = (E : Int) := by omega
        have hEN : E ≤ N := by omega
        have HEE := Lib.hid hEI
        have t0c := cell_block hta 0
        have t1c := cell_block hta 1
        clear hK5 hM5 hb5 hxr hwa htb hba hta hSv5 hIn hE hEI HAd HSt HX1 HWs HSs HB4
        go_upto_region 14 with fail
        rw [← HWa.out, ← HTb.out]
        clear x0c x1c
        go_wp2_with fail
        refine HIn.out.mono ?_
        rintro r w6 ⟨v6, rfl, ho6, hb6⟩
        obtain ⟨a6, c6, rfl, hP6, hA6, -⟩ := ho6.shape
        obtain ⟨D, hD⟩ : ∃ D, wantH F E = D := ⟨_, rfl⟩
        have hDt := wantH_tot F E
        have hDi : ∀ x ∈ D, x = ((F : Int), (E : Int)) := fun x hx => by
          rw [← hD] at hx
          unfold wantH at hx
          split at hx
          · simpa using hx
          · cases hx
        have hDl : D.length ≤ 1 := by
          rw [← hD]
          unfold wantH
          split <;> simp
        have hFE : D ≠ [] → F < E := fun h9 => by
          rw [← hD] at h9
          unfold wantH at h9
          split at h9
          · assumption
          · exact absurd rfl h9
        rw [hD] at hP6 hDt ⊢
        obtain ⟨pm, hpm⟩ : ∃ n, D.length = n := ⟨_, rfl⟩
        rw [hpm] at hP6 hDl ⊢
        have hT6 : w6.heap[tb]? = some (.cells #[.int .i64 (F : Int), .int .i64 (Z : Int)] 38 (0, 0)) := (hb6.block tb (Array.getElem?_eq_some_iff.1 HTa.out).1).trans HTa.out
        have htbM : tb ∉ M0 := fun hm => by
          have h9 := (HM0.out tb hm).2
          have h10 := HTb.out
          have h11 := HBr.out.size
          have h12 := HW5s.out
          omega
        have hC6 : Ch c M0 G0 ⟨30, A⟩ w6 := HC0.out.below (HBr.out.trans (hb6.mono HBr.out.size))
        have HS0 : Hid (HaC c A M0 w6 w6) := Lib.hid ⟨⟨30, A⟩, ⟨M0, G0, hC6, KeepB.refl _ _, fun p hp => .inl hp⟩, List.Perm.refl _⟩
        have HP6 := Lib.hid hP6
        have HA6 : Hid (∀ b off, a6 = some ⟨b, off, none⟩ → b ∉ M0) := Lib.hid (fun b off e9 hm => by
          have h9 := (hA6 b off e9).1
          have h10 := (HM0.out b hm).2
          have h11 := HBr.out.size
          omega)
        have HBw6 : Hid (Below w1.heap.size w1 w6) := Lib.hid (HBo.out.trans ((HBr.out.trans (hb6.mono HBr.out.size)).mono HBo.out.size))
        have HM1 : Hid (∀ p ∈ M0, w1.heap.size ≤ p) := Lib.hid (fun p hp => (HM0.out p hp).1)
        have HT6 := Lib.hid hT6
        have HTn := Lib.hid htbM
        have HDi := Lib.hid hDi
        have HFE := Lib.hid hFE
        have HDt := Lib.hid hDt
        have HPm := Lib.hid hpm
        clear ho6 hP6 hA6 hD hDt hDi hFE hpm hT6 htbM hC6 hb6 HIn HWa HTb HTa HBr HBs HSz HBo HC0
        go_wp2_with fail
        clear t0c t1c
        go_loopw [11, 70] (fun sv i wv => ∃ j : Nat, i = .int .i64 (j : Int) ∧ j ≤ pm ∧ sv = .int .i64 (tot (D.take j)) ∧ Hid (HaC c A M0 w6 wv)) (fun _ i _ => pm - (intOf i).toNat)
        case atStart => exact ⟨0, rfl, Nat.zero_le _, rfl, HS0⟩
        case round =>
          obtain ⟨j, rfl, hj, rfl, H5⟩ := hrel
          obtain ⟨wv, hwv⟩ : ∃ wv, wv = wr := ⟨_, rfl⟩
          subst hwv
          by_cases hjp : j < pm
          · have hd3 : decide (j < pm) = true := decide_eq_true hjp
            have hjI : (j : Int) < pm := by omega
            have hj0 : j = 0 := by omega
            have hjS : j < D.length := by rw [HPm.out]; exact hjp
            obtain ⟨x, hxj⟩ : ∃ x, D[j]? = some x := ⟨_, List.getElem?_eq_getElem hjS⟩
            obtain ⟨gb, go, rfl, hgb, hgi⟩ := HP6.out.at_.resolve_left (by intro e9; rw [e9] at hjS; simp at hjS)
            have hk2 := hgi j _ hxj
            obtain rfl := HDi.out x (List.mem_of_getElem? hxj)
            have hFE := HFE.out (by intro e9; rw [e9] at hjS; simp at hjS)
            have hgk : wv.heap[gb]? = w6.heap[gb]? := H5.out.keep.block gb hgb (HA6.out gb go rfl)
            have k0 := (World.cell?_of_block (a := ⟨gb, go + j * 2, none⟩) hgk).trans hk2.1
            have k1 := (World.cell?_of_block (a := ⟨gb, go + j * 2 + 1, none⟩) hgk).trans hk2.2
            try simp only at k0 k1
            have htk := tot_take_succ D j _ hxj
            simp only at htk
            have hT0 : tot (D.take j) = 0 := by rw [hj0]; rfl
            rw [hT0] at htk ⊢
            have HTk : Hid (tot (D.take (j + 1)) = (E : Int) - F) := Lib.hid (by rw [htk]; omega)
            obtain ⟨s5, hs5⟩ : ∃ s5, s5 = wv.heap.size := ⟨_, rfl⟩
            obtain ⟨w7, hw7⟩ : ∃ w7, w7 = wv.alloc (.cells #[.int .i64 (F : Int), .int .i64 (E : Int)] 38) := ⟨_, rfl⟩
            have hx5 : w7.heap[s5]? = some (.cells #[.int .i64 (F : Int), .int .i64 (E : Int)] 38 (0, 0)) := by rw [hw7, hs5]; exact heap_alloc_new _ _
            obtain ⟨Mi, hMi1, hMi2, hMi3, hMi4⟩ := H5.out.fresh (w5 := w7) (by rw [hw7]; exact alloc_below _ _)
            have HBv : Hid (Below w1.heap.size w1 w7) := Lib.hid (hMi3.below HM1.out HBw6.out HBw6.out.size)
            have HMiW : Hid (∀ p ∈ Mi, w1.heap.size ≤ p) := Lib.hid (fun p hp => (hMi4 p hp).elim (HM1.out p) (fun h => Nat.le_trans HBw6.out.size h))
            have HW7 := Lib.hid hw7
            have HS5 := Lib.hid hs5
            have HX5 := Lib.hid hx5
            have HNi : Hid (s5 ∉ Mi ∧ s5 < w7.heap.size) := Lib.hid ⟨fun hm => by have := hMi1 s5 hm; omega, (Array.getElem?_eq_some_iff.1 hx5).1⟩
            have HMi2 := Lib.hid hMi2
            have HMi3 := Lib.hid hMi3
            have HMi4 := Lib.hid hMi4
            have x0c := cell_block hx5 0
            clear hk2 hgk htk hT0 hgb hxj hjS hgi hs5 hw7 hx5 hMi1 hMi2 hMi3 hMi4 hj0
            go_upto_block 4 with fail
            rw [← HW7.out, ← HS5.out]
            clear H5 HW7 HS5 x0c k0 k1
            go_wp2_with fail
            go_loopw [11, 14] (fun sv v wr => ∃ zi : Nat, v = .int .i64 (zi : Int) ∧ F ≤ zi ∧ zi ≤ E ∧ sv = .int .i64 ((zi : Int) - F) ∧ Hid (HaC c A Mi w7 wr)) (fun _ v _ => E - (intOf v).toNat)
            case atStart => exact ⟨F, rfl, Nat.le_refl _, by omega, by go_num, HMi2⟩
            case round =>
              obtain ⟨zi, rfl, hz1, hz2, rfl, H6⟩ := hrel
              obtain ⟨wz, hwz⟩ : ∃ wz, wz = wr := ⟨_, rfl⟩
              subst hwz
              have e1 : wz.cell? ⟨s5, 1, none⟩ = some (.int .i64 (E : Int)) := (World.cell?_of_block (a := ⟨s5, 1, none⟩) (H6.out.keep.block s5 HNi.out.2 HNi.out.1)).trans (cell_block HX5.out 1)
              by_cases hzx : zi < E
              · have hd6 : decide (zi < E) = true := decide_eq_true hzx
                have hzN : zi < N := by omega
                have hzn : zi < n := by omega
                have hznI : (zi : Int) < n := by omega
                obtain ⟨lb, lo, X, rfl, hlb, hX, q0⟩ := HArg.out.one hzn
                have hsub := HArg.out.sub X (List.mem_of_getElem? hX)
                have hat := HAt.out zi X hzN hX
                obtain ⟨sa, sn, sc, g⟩ := X
                have hp := hsub.1
                simp only at hat hp q0
                obtain ⟨gz, hgz⟩ : ∃ gz, g.take 30 = gz := ⟨_, rfl⟩
                rw [hgz] at hat
                obtain ⟨q, hq⟩ : ∃ q, gz.length = q := ⟨_, rfl⟩
                have hqm : min sn 30 = q := by rw [← hq, ← hgz, List.length_take, hp.len]; omega
                have hqI : min (sn : Int) 30 = (q : Int) := by omega
                have hq30 : q ≤ 30 := by omega
                have hqs : q ≤ sn := by omega
                have HGe := Lib.hid (H6.out.get HRow.out.1.nodup (List.mem_of_getElem? hat) (by omega))
                rw [hq] at HGe
                have HLc : Hid (∀ w, Below w1.heap.size w1 w → w.cell? ⟨lb, lo + zi, none⟩ = some (.slice sa sn sc) ∧ PairsIn .i32 sa sn sc g w) := Lib.hid (fun w hw => by
                  have hw9 := HB1.out.trans (hw.mono HB1.out.size)
                  exact ⟨(hw9.cell (p := ⟨lb, lo + zi, none⟩) hlb).trans q0, hp.belowAll hw9⟩)
                have HGz : Hid (g.take 30 = gz ∧ gz.length = q) := Lib.hid ⟨hgz, hq⟩
                clear hlb hX q0 hsub hat hp hgz hq hqm H6
                go_wp2_with fail
                refine HGe.out.mono ?_
                rintro r w8 ⟨ga, gc, rfl, hg8, hn8, h8⟩
                have hb8 : Below w1.heap.size w1 w8 := h8.keep.below HMiW.out HBv.out HBv.out.size
                have hcl := Go.Proofs.YtkdkhphpknnceaaDoor.F.clampW_le m3
                have hcut := Go.Proofs.YtkdkhphpknnceaaDoor.F.cut_any ga q gc gz m3 w8 hg8 hn8 (HTab.out.belowAll (HB1.out.trans (hb8.mono HB1.out.size))) (by omega)
                obtain ⟨L, hL⟩ : ∃ L, Go.Proofs.YtkdkhphpknnceaaDoor.F.cutR (Go.Proofs.YtkdkhphpknnceaaDoor.F.clampW m3) gz = L := ⟨_, rfl⟩
                have HJn : Hid (L.flatten = gz) := Lib.hid (by rw [← hL]; exact Go.Proofs.YtkdkhphpknnceaaDoor.F.cutR_join _ _)
                have HLn : Hid (L.length ≤ 31) := Lib.hid (by rw [← hL]; have h9 := (Go.Proofs.YtkdkhphpknnceaaDoor.F.brk_few hcl.1 gz [] 0 (by simp)).1; unfold Go.Proofs.YtkdkhphpknnceaaDoor.F.cutR; have h10 := HGz.out.2; omega)
                rw [hL] at hcut
                have HCut := Lib.hid hcut
                have H8 := Lib.hid h8
                have HB8 := Lib.hid hb8
                clear hg8 hn8 h8 hb8 hcl hcut hL HGe
                go_wp2_with fail
                refine HCut.out.mono ?_
                rintro r w9 ⟨v9, us9, rfl, hus9, hsv9, hb9⟩
                obtain ⟨a9, c9, rfl, hrows⟩ := Go.Proofs.YtkdkhphpknnceaaDoor.F.own_rows hus9 hsv9
                obtain ⟨Kr, hKr⟩ : ∃ K, L.length = K := ⟨_, rfl⟩
                have hK31 : Kr ≤ 31 := by rw [← hKr]; exact HLn.out
                rw [hKr] at hrows ⊢
                have hjo := Go.Proofs.YtkdkhphpknnceaaDoor.F.join_any a9 Kr c9 L w9 hrows (by rw [HJn.out, HGz.out.2]; omega) (by omega)
                rw [HJn.out] at hjo
                have HJo := Lib.hid hjo
                have HB9 := Lib.hid hb9
                clear hus9 hsv9 hb9 hrows hjo hKr HCut
                go_wp2_with fail
                refine HJo.out.mono ?_
                rintro r wa ⟨v6, rfl, hqa, hba⟩
                obtain ⟨aa, ca, rfl, hpa, -, -⟩ := hqa.shape
                rw [HGz.out.2] at hpa ⊢
                have hb1a : Below w1.heap.size w1 wa := HB8.out.trans ((HB9.out.trans (hba.mono HB9.out.size)).mono HB8.out.size)
                have HHa : Hid (HaC c A Mi w7 wa) := Lib.hid (H8.out.below (HB9.out.trans (hba.mono HB9.out.size)))
                have HPa := Lib.hid hpa
                have HBa := Lib.hid hb1a
                have q0 := (HLc.out wa hb1a).1
                clear hqa hba hpa hb1a HJo H8 HB8 HB9 HJn HLn
                go_wp2_with fail
                clear q0
                go_loopw [105] (fun i wr => ∃ kk : Nat, i = .int .i64 (kk : Int) ∧ kk ≤ q ∧ Hid (EqD wa wr)) (fun i _ => q - (intOf i).toNat)
                case atStart => exact ⟨0, rfl, Nat.zero_le _, Lib.hid (EqD.refl wa)⟩
                case round =>
                  obtain ⟨kk, rfl, hkq, H9⟩ := hrel
                  by_cases hlk : kk < q
                  · have hd9 : decide (kk < q) = true := decide_eq_true hlk
                    have hkI : (kk : Int) < q := by omega
                    have hkz : kk < gz.length := by rw [HGz.out.2]; exact hlk
                    obtain ⟨⟨zr, sy⟩, hgk⟩ : ∃ g, gz[kk]? = some g := ⟨_, List.getElem?_eq_getElem hkz⟩
                    obtain ⟨gb, go, rfl, hgb, hgi⟩ := HPa.out.at_.resolve_left (by intro e9; rw [e9] at hkz; simp at hkz)
                    have hk3 := hgi kk _ hgk
                    have hgg : g[kk]? = some (zr, sy) := by
                      have h9 := hgk
                      rw [← HGz.out.1, List.getElem?_take] at h9
                      split at h9
                      · exact h9
                      · cases h9
                    obtain ⟨hlc, hpp⟩ := HLc.out wr (HBa.out.trans (H9.out.below.mono HBa.out.size))
                    obtain ⟨wb, wo, rfl, hwb, hwi⟩ := hpp.at_.resolve_left (by intro e9; rw [e9] at hgg; simp at hgg)
                    have hk4 := hwi kk _ hgg
                    have HX0 : Hid (wr.cell? ⟨gb, go + kk * 2, none⟩ = some (.int .i32 zr)) := Lib.hid ((H9.out.cell _).trans hk3.1)
                    have HX1 : Hid (wr.cell? ⟨gb, go + kk * 2 + 1, none⟩ = some (.int .i64 sy)) := Lib.hid ((H9.out.cell _).trans hk3.2)
                    have HY0 : Hid (wr.cell? ⟨wb, wo + kk * 2, none⟩ = some (.int .i32 zr)) := Lib.hid hk4.1
                    have HY1 : Hid (wr.cell? ⟨wb, wo + kk * 2 + 1, none⟩ = some (.int .i64 sy)) := Lib.hid hk4.2
                    have HLz : Hid (wr.cell? ⟨lb, lo + zi, none⟩ = some (.slice (some ⟨wb, wo, none⟩) sn sc)) := Lib.hid hlc
                    have HKm : Hid ((kk : Int) < q) := Lib.hid hkI
                    have HKw : Hid ((kk : Int) < sn) := Lib.hid (by omega)
                    have HZn : Hid ((zi : Int) < n) := Lib.hid hznI
                    clear hkz hgb hgi hk3 hgg hlc hpp hwb hwi hk4 hgk
                    go_upto_region 30 with fail
                    refine Go.Proofs.YtkdkhphpknnceaaDoor.R.wp_region_due [] [0, 0, 0, 0, 0, 0, 0, 0, 0, 0, 0, 0] (by kernel_rfl) (fun _ _ u => EqD wr u) (fun _ _ => True) (HaOk30 gb go q ca lb lo n lc wb wo sn sc zi kk zr sy) (by rfl) (by kernel_rfl) (by kernel_rfl) (by kernel_rfl) (by kernel_rfl) ?hcong ?hOk ?hop ?hdone ?h0
                    case hcong => exact fun k f f2 u hs hst => hst
                    case hOk => intro i u w1 w2 h hr; unfold HaOk30 at h ⊢; split <;> first | exact True.intro | exact h
                    case h0 => exact (EqD.refl wr).drew
                    case hop =>
                      refine ⟨?_, ?_, ?_, ?_, ?_, ?_, ?_, ?_, ?_, ?_, ?_, ?_, trivial⟩
                      · intro k z v hk hst hag hdep
                        refine .inl ⟨rfl, fun K hK => ?_⟩
                        have d15 : z.tmps.getD 15 undef = .slice (some ⟨gb, go, none⟩) q ca := hag.2.2 15 (by kernel_rfl)
                        have e15 := d15
                        rw [Array.getD_eq_getD_getElem?] at e15
                        have HSt := Lib.hid hst
                        clear hdep hag hst
                        go_simp
                        exact hK _ _ trivial rfl HSt.out
                      · intro k z v hk hst hag hdep
                        refine .inl ⟨rfl, fun K hK => ?_⟩
                        have d17 : z.tmps.getD 17 undef = .int .i64 (kk : Int) := hag.2.2 17 (by kernel_rfl)
                        have e17 := d17
                        rw [Array.getD_eq_getD_getElem?] at e17
                        have HSt := Lib.hid hst
                        clear hdep hag hst
                        go_simp
                        exact hK _ _ trivial rfl HSt.out
                      · intro k z v hk hst hag hdep
                        refine .inl ⟨rfl, fun K hK => ?_⟩
                        have d108 : z.tmps.getD 108 undef = .slice (some ⟨gb, go, none⟩) q ca := hdep { on := 0, ground := .data } (by simp) rfl _ _ rfl rfl
                        have e108 := d108
                        rw [Array.getD_eq_getD_getElem?] at e108
                        have d109 : z.tmps.getD 109 undef = .int .i64 (kk : Int) := hdep { on := 1, ground := .data } (by simp) rfl _ _ rfl rfl
                        have e109 := d109
                        rw [Array.getD_eq_getD_getElem?] at e109
                        have hkm := HKm.out
                        have HSt := Lib.hid hst
                        clear hdep hag hst
                        go_simp
                        exact hK _ _ trivial rfl HSt.out
                      · intro k z v hk hst hag hdep
                        refine .inl ⟨rfl, fun K hK => ?_⟩
                        have d110 : z.tmps.getD 110 undef = .pointer (some ⟨gb, go + kk * 2, none⟩) := hdep { on := 2, ground := .data } (by simp) rfl _ _ rfl rfl
                        have e110 := d110
                        rw [Array.getD_eq_getD_getElem?] at e110
                        have hq : EqD wr v := hst
                        have l0 := (hq.cell _).trans HX0.out
                        have l1 := (hq.cell _).trans HX1.out
                        clear hq
                        have HSt := Lib.hid hst
                        clear hdep hag hst
                        go_simp
                        exact hK _ _ trivial rfl HSt.out
                      · intro k z v hk hst hag hdep
                        refine .inl ⟨rfl, fun K hK => ?_⟩
                        have d3 : z.tmps.getD 3 undef = .slice (some ⟨lb, lo, none⟩) n lc := hag.2.2 3 (by kernel_rfl)
                        have e3 := d3
                        rw [Array.getD_eq_getD_getElem?] at e3
                        have HSt := Lib.hid hst
                        clear hdep hag hst
                        go_simp
                        exact hK _ _ trivial rfl HSt.out
                      · intro k z v hk hst hag hdep
                        refine .inl ⟨rfl, fun K hK => ?_⟩
                        have d14 : z.tmps.getD 14 undef = .int .i64 (zi : Int) := hag.2.2 14 (by kernel_rfl)
                        have e14 := d14
                        rw [Array.getD_eq_getD_getElem?] at e14
                        have HSt := Lib.hid hst
                        clear hdep hag hst
                        go_simp
                        exact hK _ _ trivial rfl HSt.out
                      · intro k z v hk hst hag hdep
                        refine .inl ⟨rfl, fun K hK => ?_⟩
                        have d112 : z.tmps.getD 112 undef = .slice (some ⟨lb, lo, none⟩) n lc := hdep { on := 4, ground := .data } (by simp) rfl _ _ rfl rfl
                        have e112 := d112
                        rw [Array.getD_eq_getD_getElem?] at e112
                        have d113 : z.tmps.getD 113 undef = .int .i64 (zi : Int) := hdep { on := 5, ground := .data } (by simp) rfl _ _ rfl rfl
                        have e113 := d113
                        rw [Array.getD_eq_getD_getElem?] at e113
                        have hzn := HZn.out
                        have HSt := Lib.hid hst
                        clear hdep hag hst
                        go_simp
                        exact hK _ _ trivial rfl HSt.out
                      · intro k z v hk hst hag hdep
                        refine .inl ⟨rfl, fun K hK => ?_⟩
                        have d114 : z.tmps.getD 114 undef = .pointer (some ⟨lb, lo + zi, none⟩) := hdep { on := 6, ground := .data } (by simp) rfl _ _ rfl rfl
                        have e114 := d114
                        rw [Array.getD_eq_getD_getElem?] at e114
                        have hq : EqD wr v := hst
                        have l0 := (hq.cell _).trans HLz.out
                        clear hq
                        have HSt := Lib.hid hst
                        clear hdep hag hst
                        go_simp
                        exact hK _ _ trivial rfl HSt.out
                      · intro k z v hk hst hag hdep
                        refine .inl ⟨rfl, fun K hK => ?_⟩
                        have d17 : z.tmps.getD 17 undef = .int .i64 (kk : Int) := hag.2.2 17 (by kernel_rfl)
                        have e17 := d17
                        rw [Array.getD_eq_getD_getElem?] at e17
                        have HSt := Lib.hid hst
                        clear hdep hag hst
                        go_simp
                        exact hK _ _ trivial rfl HSt.out
                      · intro k z v hk hst hag hdep
                        refine .inl ⟨rfl, fun K hK => ?_⟩
                        have d115 : z.tmps.getD 115 undef = .slice (some ⟨wb, wo, none⟩) sn sc := hdep { on := 7, ground := .data } (by simp) rfl _ _ rfl rfl
                        have e115 := d115
                        rw [Array.getD_eq_getD_getElem?] at e115
                        have d116 : z.tmps.getD 116 undef = .int .i64 (kk : Int) := hdep { on := 8, ground := .data } (by simp) rfl _ _ rfl rfl
                        have e116 := d116
                        rw [Array.getD_eq_getD_getElem?] at e116
                        have hkm := HKw.out
                        have HSt := Lib.hid hst
                        clear hdep hag hst
                        go_simp
                        exact hK _ _ trivial rfl HSt.out
                      · intro k z v hk hst hag hdep
                        refine .inl ⟨rfl, fun K hK => ?_⟩
                        have d117 : z.tmps.getD 117 undef = .pointer (some ⟨wb, wo + kk * 2, none⟩) := hdep { on := 9, ground := .data } (by simp) rfl _ _ rfl rfl
                        have e117 := d117
                        rw [Array.getD_eq_getD_getElem?] at e117
                        have hq : EqD wr v := hst
                        have l0 := (hq.cell _).trans HY0.out
                        have l1 := (hq.cell _).trans HY1.out
                        clear hq
                        have HSt := Lib.hid hst
                        clear hdep hag hst
                        go_simp
                        exact hK _ _ trivial rfl HSt.out
                      · intro k z v hk hst hag hdep
                        refine .inl ⟨rfl, fun K hK => ?_⟩
                        have d111 : z.tmps.getD 111 undef = .agg #[.int .i32 zr, .int .i64 sy] := hdep { on := 3, ground := .data } (by simp) rfl _ _ rfl rfl
                        have e111 := d111
                        rw [Array.getD_eq_getD_getElem?] at e111
                        have d118 : z.tmps.getD 118 undef = .agg #[.int .i32 zr, .int .i64 sy] := hdep { on := 10, ground := .data } (by simp) rfl _ _ rfl rfl
                        have e118 := d118
                        rw [Array.getD_eq_getD_getElem?] at e118
                        have HSt := Lib.hid hst
                        clear hdep hag hst
                        go_simp
                        have hk9 := hK (.bool false) v trivial rfl HSt.out
                        first | exact hk9 | (simpa using hk9)
                    case hdone =>
                      intro z9 v hst hag hok
                      have hqv : EqD wr v := hst
                      have d119 : z9.tmps.getD 119 undef = .bool false := hok 11 _ 119 rfl rfl
                      have HE9 : Hid (EqD wa v) := Lib.hid (H9.out.trans hqv)
                      clear hst hqv
                      obtain ⟨uu, hu, hzz⟩ := Go.Proofs.YtkdkhphpknnceaaDoor.R.agree_frame [108, 109, 110, 111, 112, 113, 114, 115, 116, 117, 118, 119] rfl hag
                      have e119 := (hu 119).trans d119
                      subst hzz
                      simp only [List.foldl_cons, List.foldl_nil]
                      rw [e119]
                      clear e119 d119 hu hag hok
                      try dsimp only [Exit.then]
                      simp only [List.setIfInBounds_toArray, List.set_cons_succ, List.set_cons_zero]
                      generalize uu 108 = u108', uu 109 = u109', uu 110 = u110', uu 111 = u111', uu 112 = u112', uu 113 = u113', uu 114 = u114', uu 115 = u115', uu 116 = u116', uu 117 = u117', uu 118 = u118'
                      clear uu
                      try dsimp only
                      go_wp2_with fail
                      go_roundw
                      case rel => exact ⟨kk + 1, by go_num, by omega, HE9⟩
                      case measure => simp [intOf]; omega
                  · obtain rfl : kk = q := by omega
                    have hd9 : decide (kk < kk) = false := by simp
                    have HHz : Hid (HaC c A Mi w7 wr) := Lib.hid (HHa.out.below H9.out.below)
                    clear HHa H9 hlk HPa HLc HGz
                    go_wp2_with fail
                    go_roundw
                    case rel => exact ⟨zi + 1, by go_num, by omega, by omega, by go_num, HHz⟩
                    case measure => simp [intOf]; omega
              · obtain rfl : zi = E := by omega
                have hd6 : decide (zi < zi) = false := by simp
                have H7 : Hid (HaC c A M0 w6 wz) := Lib.hid (H6.out.nest HMi3.out HMi4.out)
                clear H6 hzx
                go_wp2_with fail
                go_roundw
                case rel => exact ⟨j + 1, by go_num, by omega, by rw [HTk.out], H7⟩
                case measure => simp [intOf]; omega
          · obtain rfl : j = pm := by omega
            have hd3 : decide (j < j) = false := by simp
            have hta : D.take j = D := List.take_of_length_le (by rw [HPm.out]; exact Nat.le_refl _)
            rw [hta, HDt.out]
            have hTt : wv.heap[tb]? = some (.cells #[.int .i64 (F : Int), .int .i64 (Z : Int)] 38 (0, 0)) := (H5.out.keep.block tb (Array.getElem?_eq_some_iff.1 HT6.out).1 HTn.out).trans HT6.out
            have t0c := cell_block hTt 0
            have t1c := cell_block hTt 1
            obtain ⟨y, hy1, hy2⟩ := H5.out
            have hyl : y.L.length = N := by rw [hy2.length_eq, HRow.out.2]
            have HLn := Lib.hid hy1.len
            rw [hyl] at HLn
            have hend : Hid (P (.returned (.bool true)) wv) := Lib.hid (by
              rw [← HP.out]
              have h9 : Below w1.heap.size w1 wv := hy1.keep.below HM1.out HBw6.out HBw6.out.size
              exact ⟨rfl, HB1.out.trans (h9.mono HB1.out.size)⟩)
            have hEI := HEE.out
            obtain ⟨TI, hTI⟩ : ∃ TI, max 0 ((E : Int) - F) = TI := ⟨_, rfl⟩
            rw [hTI]
            clear hta hTt hy1 hy2 hyl H5 hjp
            go_wp2_with fail
            refine HLn.out.mono ?_
            rintro r w12 ⟨rfl, rfl⟩
            go_wp2_with fail
            all_goals exact hend.out
end Go.Proofs.YtkdkhphpknnceaaDoor.C
