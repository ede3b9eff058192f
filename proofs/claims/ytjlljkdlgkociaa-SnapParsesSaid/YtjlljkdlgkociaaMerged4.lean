/- Rows of our own, of elements of any type: append upon them, and what it keeps. -/
import Derived.Test.YtjlljkdlgkociaaRows
import Derived.WalkKit
import Derived.WalkLawsBesides
import Derived.WalkSpells
import Derived.Outline
import Derived.Lib.Hide
import Derived.Below
import Derived.IntWalk
import Derived.OwnWalk
import Derived.ArgAppend
import Derived.Laws.OwnMore
import Derived.Test.YtjlljkdlgkociaaMerged0
import Derived.Laws.ResultCell
import Derived.RangeFuncBox
import Derived.Deep.Cut
import Derived.Deep.CutBlock
import Derived.Deep.DeepCutAuto
import Derived.Lib.MinMax
import Derived.Lib.SliceRun
import Derived.Laws.Bits64b
namespace Go.Proofs.Ytjlljkdlgkociaa.U
open Go.RowKit

/-- what append leaves -/
structure Grew (base : Nat) (e : TypeId) (size : Nat) (v : Value) (n : Nat) (out : List Value) (w : World) (v' : Value) (w' : World) : Prop where
  own : w'.ownsRow base e size v' n out
  grown : w.grownBy w' v.ownBlock
  keeps : ∀ x k ys, ys <+: out → w.ownsRow base e size x k ys → w'.ownsRow base e size x k ys
  block : ∀ q, v'.ownBlock = some q → v.ownBlock = some q ∨ w.heap.size ≤ q
theorem weaken {base base' : Nat} {e : TypeId} {size : Nat} {v : Value} {n : Nat} {xs : List Value} {w : World} (h : w.ownsRow base e size v n xs) (hb : base' ≤ base) : w.ownsRow base' e size v n xs := by
  refine ⟨h.1, h.2.imp id ?_⟩
  rintro ⟨g, cap, cur, h1, h2, h3⟩
  exact ⟨g, cap, cur, h1, Nat.le_trans hb h2, h3⟩
theorem belowAll {base : Nat} {e : TypeId} {size : Nat} {v : Value} {n : Nat} {xs : List Value} {w w' : World} (h : w.ownsRow base e size v n xs) (hb : Below w.heap.size w w') : w'.ownsRow base e size v n xs :=
  World.ownsRow.kept h (row := none) ⟨hb.os, hb.tape, hb.output, hb.size, fun k hk _ => hb.block k hk⟩ (by
    cases hv : v.ownBlock with
    | none => exact .inl rfl
    | some k => exact .inr (by simp))
theorem own_type {base size : Nat} {e : TypeId} {v : Value} {n : Nat} {xs : List Value} {w : World} (h : w.ownsRow base e size v n xs) {g : Nat} (hg : v.ownBlock = some g) : ∃ cs, w.heap[g]? = some (.cells cs e (0, 0)) ∧ base ≤ g ∧ g < w.heap.size := by
  rcases h.2 with ⟨rfl, _⟩ | ⟨g', cap, cur, rfl, hb, hgb, _⟩
  · simp [Value.ownBlock] at hg
  · obtain rfl : g' = g := by simpa [Value.ownBlock] using hg
    exact ⟨cur, hgb, hb, (Array.getElem?_eq_some_iff.1 hgb).1⟩
/-- a row of one type is kept where a row of another type grows, or another row -/
theorem kept_apart {base size : Nat} {e : TypeId} {v : Value} {n : Nat} {xs : List Value} {w w' : World} {row : Option Nat} (h : w.ownsRow base e size v n xs) (hg : w.grownBy w' row) (hne : ∀ q, v.ownBlock = some q → row ≠ some q) : w'.ownsRow base e size v n xs :=
  World.ownsRow.kept h hg (by
    cases hv : v.ownBlock with
    | none => exact .inl rfl
    | some q => exact .inr (fun e => hne q hv e.symm))
theorem append_grew {P : Program} (w : World) (t ty e : TypeId) (i : TypeInfo) (z : Value) (size bytes : Nat) (ht : P.underlying t = some (.slice e)) (hi : P.info? e = some i) (hz : i.zero = some z)
    (hsize : i.size = size) (hby : i.bytes = bytes) (hzs : z.cells.size = size) (hsz : 0 < size)
    (base : Nat) (v : Value) (n : Nat) (xs : List Value) (hown : w.ownsRow base e size v n xs)
    (ad : Addr) (m c : Nat) (news : List Value) (hl : news.length = m * size) (hnews : ∀ j u, news[j]? = some u → w.cell? (ad.add j) = some u) (h1 : ∀ u ∈ news, u.oneCell' = true)
    (h63 : n + m ≤ maxLen) (hbytes : (n + m) * bytes ≤ 140737488355328) (hbase : base ≤ w.heap.size) :
    ∃ v' w', (Builtin.append_ #[t, t] ty #[v, .slice (some ad) m c]).run P w = .ok v' w' ∧ Grew base e size v (n + m) (xs ++ news) w v' w' := by
  have fresh : ∀ v' w', w'.ownsRow w.heap.size e size v' (n + m) (xs ++ news) → w.grownBy w' none → Grew base e size v (n + m) (xs ++ news) w v' w' := fun v' w' h2 h3 => by
    have hb : Below w.heap.size w w' := ⟨h3.os, h3.tape, h3.output, h3.size, fun k hk => h3.block k hk (by simp)⟩
    exact ⟨weaken h2 hbase, ⟨h3.os, h3.tape, h3.output, h3.size, fun k hk _ => h3.block k hk (by simp)⟩, fun x k ys _ h => belowAll h hb, fun q hq => .inr (own_type h2 hq).choose_spec.2.1⟩
  rcases hown.2 with ⟨rfl, h0⟩ | ⟨g, cap, cur, rfl, hbg, hg, hnc, hcm, hcs, htake⟩
  · obtain ⟨v', w', hr, h2, h3, _⟩ := run_append_own (P := P) w w.heap.size t ty e i z size bytes ht hi hz hsize hby hzs hsz (.slice none 0 0) n xs ⟨hown.1, .inl ⟨rfl, h0⟩⟩ ad m c news hl hnews h1 h63 hbytes (Nat.le_refl _)
    exact ⟨v', w', hr, fresh v' w' h2 h3⟩
  · by_cases hroom : n + m ≤ cap
    · have hfit : n * size + news.length ≤ cur.size := by rw [hl, hcs, ← Nat.add_mul]; exact Nat.mul_le_mul_right _ hroom
      have hr := run_append_room (P := P) w t ty e i ht hi g n cap cur hg ad m c news (by rw [hl, hsize]) hnews h1 hroom (by rw [hsize]; exact hfit)
      rw [hsize] at hr
      obtain ⟨C2, hC2⟩ : ∃ C2, (cur.toList.take (n * size) ++ news ++ cur.toList.drop (n * size + news.length)) = C2 := ⟨_, rfl⟩
      rw [hC2] at hr
      have hrow := setRow_heap w g cur C2.toArray e (0, 0) hg
      have hlen2 : C2.length = cur.size := by
        rw [← hC2]
        simp only [List.length_append, List.length_take, List.length_drop, Array.length_toList]
        omega
      have hxl : xs.length = n * size := hown.1
      have hpre : C2.take ((n + m) * size) = xs ++ news := by
        rw [← hC2, htake]
        exact List.take_left' (by rw [List.length_append, hxl, hl, Nat.add_mul])
      refine ⟨_, _, hr, ⟨⟨by rw [List.length_append, hxl, hl, Nat.add_mul], .inr ⟨g, cap, C2.toArray, rfl, hbg, hrow, hroom, hcm, by simp [hlen2, hcs], hpre⟩⟩, ⟨rfl, rfl, rfl, by simp, fun k _ hk => setRow_other w g k _ (fun e => hk (by simp [Value.ownBlock, e]))⟩, fun x k ys hp hx2 => ?_, fun q hq => .inl hq⟩⟩
      rcases hx2.2 with ⟨rfl, h0⟩ | ⟨g2, cap2, cur2, rfl, hbg2, hg2, hnc2, hcm2, hcs2, htake2⟩
      · exact ⟨hx2.1, .inl ⟨rfl, h0⟩⟩
      · by_cases hgg : g2 = g
        · subst hgg
          rw [hg] at hg2
          obtain ⟨e1⟩ : cur = cur2 := by
            have := Option.some.inj hg2
            injection this
          refine ⟨hx2.1, .inr ⟨g2, cap2, C2.toArray, rfl, hbg2, hrow, hnc2, hcm2, by rw [← hcs2]; simp [hlen2], ?_⟩⟩
          obtain ⟨r, hr2⟩ := hp
          have hle : ys.length ≤ (n + m) * size := by
            have := congrArg List.length hr2
            rw [List.length_append, List.length_append, hxl, hl, ← Nat.add_mul] at this
            omega
          have h3 : C2.take ys.length = (xs ++ news).take ys.length := by rw [← hpre, List.take_take, Nat.min_eq_left hle]
          rw [← hx2.1, show C2.toArray.toList = C2 from rfl, h3, ← hr2, List.take_left' rfl]
        · exact ⟨hx2.1, .inr ⟨g2, cap2, cur2, rfl, hbg2, (setRow_other w g g2 _ hgg).trans hg2, hnc2, hcm2, hcs2, htake2⟩⟩
    · obtain ⟨v', w', hr, h2, h3⟩ := run_append_arg_grows (P := P) w t ty e i z size bytes ht hi hz hsize hby hzs hsz ⟨g, 0, none⟩ n cap xs hown.1 (hown.cells (g := g) rfl) ad m c news hl hnews (by omega) h63 hbytes
      exact ⟨v', w', hr, fresh v' w' h2 h3⟩
/-- append of none -/
theorem append_none {P : Program} (w : World) (t ty e : TypeId) (i : TypeInfo) (size c : Nat) (ht : P.underlying t = some (.slice e)) (hi : P.info? e = some i) (base : Nat) (v : Value) (n : Nat) (xs : List Value) (hown : w.ownsRow base e size v n xs) (hc : c = 0) :
    (Builtin.append_ #[t, t] ty #[v, .slice none 0 c]).run P w = .ok v w ∧ Grew base e size v n xs w v w := by
  subst hc
  exact ⟨run_append_owned_none w base _ _ _ i size ht hi v n xs hown, hown, ⟨rfl, rfl, rfl, Nat.le_refl _, fun _ _ _ => rfl⟩, fun _ _ _ _ h => h, fun q h => .inl h⟩
end Go.Proofs.Ytjlljkdlgkociaa.U

/- Cells in memory: of the program's rows (runes of 32 bits) and of the document's. -/
namespace Go.Proofs.Ytjlljkdlgkociaa.K
open Go.RowKit

def cCells (rk : IntKind) (c : Cel) : List Value := [.int rk c.rune, .int .i64 c.style, .int .i64 c.part]
def cArr (rk : IntKind) (c : Cel) : Array Value := #[.int rk c.rune, .int .i64 c.style, .int .i64 c.part]
def flatC (rk : IntKind) (l : List Cel) : List Value := l.flatMap (cCells rk)
theorem flatC_len (rk : IntKind) (l : List Cel) : (flatC rk l).length = l.length * 3 := by
  induction l with
  | nil => rfl
  | cons c l ih => simp [flatC, List.flatMap_cons, cCells] at ih ⊢; omega
theorem flatC_append (rk : IntKind) (a b : List Cel) : flatC rk (a ++ b) = flatC rk a ++ flatC rk b := List.flatMap_append ..
theorem flatC_get (rk : IntKind) : ∀ (l : List Cel) (i j : Nat) (c : Cel), l[i]? = some c → j < 3 → (flatC rk l)[i * 3 + j]? = (cCells rk c)[j]?
  | [], _, _, _, h, _ => by cases h
  | d :: l, 0, j, c, h, hj => by
    obtain rfl : d = c := by simpa using h
    show (cCells rk d ++ flatC rk l)[0 * 3 + j]? = _
    rw [List.getElem?_append_left (by simp [cCells]; omega)]
    simp
  | d :: l, i + 1, j, c, h, hj => by
    show (cCells rk d ++ flatC rk l)[(i + 1) * 3 + j]? = _
    rw [List.getElem?_append_right (by simp [cCells]; omega)]
    have e : (i + 1) * 3 + j - (cCells rk d).length = i * 3 + j := by simp [cCells]; omega
    rw [e]
    exact flatC_get rk l i j c (by simpa using h) hj
theorem flatC_one (rk : IntKind) (l : List Cel) : ∀ u ∈ flatC rk l, u.oneCell' = true := by
  intro u hu
  obtain ⟨c, _, hu⟩ := List.mem_flatMap.1 hu
  simp only [cCells, List.mem_cons, List.not_mem_nil, or_false] at hu
  rcases hu with rfl | rfl | rfl <;> rfl
/-- one cell in memory -/
structure CelAt (rk : IntKind) (w : World) (b o : Nat) (c : Cel) : Prop where
  c0 : w.cell? ⟨b, o, none⟩ = some (.int rk c.rune)
  c1 : w.cell? ⟨b, o + 1, none⟩ = some (.int .i64 c.style)
  c2 : w.cell? ⟨b, o + 2, none⟩ = some (.int .i64 c.part)
theorem CelAt.block {rk : IntKind} {w w' : World} {b o : Nat} {c : Cel} (h : CelAt rk w b o c) (hb : w'.heap[b]? = w.heap[b]?) : CelAt rk w' b o c :=
  ⟨(World.cell?_of_block (a := ⟨b, o, none⟩) hb).trans h.c0, (World.cell?_of_block (a := ⟨b, o + 1, none⟩) hb).trans h.c1, (World.cell?_of_block (a := ⟨b, o + 2, none⟩) hb).trans h.c2⟩
theorem CelAt.get {rk : IntKind} {w : World} {b o : Nat} {c : Cel} (h : CelAt rk w b o c) (j : Nat) (u : Value) (hj : (cCells rk c)[j]? = some u) : w.cell? ⟨b, o + j, none⟩ = some u := by
  match j, hj with
  | 0, hj => rw [show u = .int rk c.rune by simpa [cCells] using hj.symm]; exact h.c0
  | 1, hj => rw [show u = .int .i64 c.style by simpa [cCells] using hj.symm]; exact h.c1
  | 2, hj => rw [show u = .int .i64 c.part by simpa [cCells] using hj.symm]; exact h.c2
  | n + 3, hj => simp [cCells] at hj
/-- a slice of cells -/
structure CelsIn (rk : IntKind) (a : Option Addr) (n : Nat) (l : List Cel) (w : World) : Prop where
  len : n = l.length
  at_ : l = [] ∨ ∃ b off, a = some ⟨b, off, none⟩ ∧ b < w.heap.size ∧ ∀ i c, l[i]? = some c → CelAt rk w b (off + i * 3) c
theorem CelsIn.blocks {rk : IntKind} {a : Option Addr} {n : Nat} {l : List Cel} {w w' : World} (h : CelsIn rk a n l w) (hs : w.heap.size ≤ w'.heap.size) (hk : ∀ b off, a = some ⟨b, off, none⟩ → b < w.heap.size → w'.heap[b]? = w.heap[b]?) : CelsIn rk a n l w' := by
  refine ⟨h.len, h.at_.imp id ?_⟩
  rintro ⟨b, off, ha, hl, hi⟩
  exact ⟨b, off, ha, Nat.lt_of_lt_of_le hl hs, fun i c hc => (hi i c hc).block (hk b off ha hl)⟩
theorem CelsIn.belowAll {rk : IntKind} {a : Option Addr} {n : Nat} {l : List Cel} {w w' : World} (h : CelsIn rk a n l w) (hb : Below w.heap.size w w') : CelsIn rk a n l w' := h.blocks hb.size (fun b _ _ hl => hb.block b hl)
theorem CelsIn.take {rk : IntKind} {a : Option Addr} {n : Nat} {l : List Cel} {w : World} (h : CelsIn rk a n l w) {k : Nat} (hk : k ≤ n) : CelsIn rk a k (l.take k) w := by
  have hl := h.len
  refine ⟨by rw [List.length_take]; omega, ?_⟩
  rcases h.at_ with e | ⟨b, off, ha, hb, hi⟩
  · left; rw [e]; simp
  · exact .inr ⟨b, off, ha, hb, fun i c hc => hi i c (by rw [List.getElem?_take] at hc; split at hc; exact hc; cases hc)⟩
theorem CelsIn.drop {rk : IntKind} {b off n : Nat} {l : List Cel} {w : World} (h : CelsIn rk (some ⟨b, off, none⟩) n l w) {k : Nat} (hk : k ≤ n) : CelsIn rk (some ⟨b, off + k * 3, none⟩) (n - k) (l.drop k) w := by
  have hl := h.len
  refine ⟨by rw [List.length_drop]; omega, ?_⟩
  rcases h.at_ with e | ⟨b', off', ha, hb, hi⟩
  · left; rw [e]; simp
  · cases ha
    refine .inr ⟨b, off + k * 3, rfl, hb, fun i c hc => ?_⟩
    rw [List.getElem?_drop] at hc
    have := hi (k + i) c hc
    rw [show off + k * 3 + i * 3 = off + (k + i) * 3 by omega]
    exact this
/-- nothing is left, wherever it starts -/
theorem CelsIn.empty (rk : IntKind) (a : Option Addr) (w : World) : CelsIn rk a 0 [] w := ⟨rfl, .inl rfl⟩
theorem CelsIn.news {rk : IntKind} {b off n : Nat} {l : List Cel} {w : World} (h : CelsIn rk (some ⟨b, off, none⟩) n l w) : ∀ j u, (flatC rk l)[j]? = some u → w.cell? ((⟨b, off, none⟩ : Addr).add j) = some u := by
  intro j u hj
  have hadd : ((⟨b, off, none⟩ : Addr).add j) = ⟨b, off + j, none⟩ := by unfold Addr.add; split <;> simp_all
  rw [hadd]
  have hlt : j < l.length * 3 := by have := (List.getElem?_eq_some_iff.1 hj).1; rw [flatC_len] at this; exact this
  rcases h.at_ with e | ⟨b', off', ha, hb, hi⟩
  · rw [e] at hlt; simp at hlt
  · cases ha
    have hjl : j / 3 < l.length := by omega
    have h1 := hi (j / 3) l[j / 3] (List.getElem?_eq_getElem hjl)
    have h2 := flatC_get rk l (j / 3) (j % 3) l[j / 3] (List.getElem?_eq_getElem hjl) (by omega)
    rw [show j / 3 * 3 + j % 3 = j by omega, hj] at h2
    have h3 := h1.get (j % 3) u h2.symm
    rw [show off + j = off + j / 3 * 3 + j % 3 by omega]
    exact h3
/-- cells of our own -/
def OwnC (rk : IntKind) (T : TypeId) (base : Nat) (v : Value) (l : List Cel) (w : World) : Prop := w.ownsRow base T 3 v l.length (flatC rk l)
theorem OwnC.nil (rk : IntKind) (T : TypeId) (base : Nat) (w : World) : OwnC rk T base (.slice none 0 0) [] w := World.ownsRow_nil _ _ _ _
theorem OwnC.belowAll {rk : IntKind} {T : TypeId} {base : Nat} {v : Value} {l : List Cel} {w w' : World} (h : OwnC rk T base v l w) (hb : Below w.heap.size w w') : OwnC rk T base v l w' := U.belowAll h hb
theorem OwnC.alloc {rk : IntKind} {T : TypeId} {base : Nat} {v : Value} {l : List Cel} {w : World} (h : OwnC rk T base v l w) (o : Obj) : OwnC rk T base v l (w.alloc o) := h.belowAll ((Below.refl _ _).alloc (Nat.le_refl _) o)
theorem OwnC.weaken {rk : IntKind} {T : TypeId} {base base' : Nat} {v : Value} {l : List Cel} {w : World} (h : OwnC rk T base v l w) (hb : base' ≤ base) : OwnC rk T base' v l w := U.weaken h hb
theorem OwnC.ownBlock {rk : IntKind} {T : TypeId} {base : Nat} {v : Value} {l : List Cel} {w : World} (h : OwnC rk T base v l w) : ∀ q, v.ownBlock = some q → base ≤ q ∧ q < w.heap.size := fun q hq => ⟨(U.own_type h hq).choose_spec.2.1, (U.own_type h hq).choose_spec.2.2⟩
theorem OwnC.shape {rk : IntKind} {T : TypeId} {base : Nat} {v : Value} {l : List Cel} {w : World} (h : OwnC rk T base v l w) : ∃ a c, v = .slice a l.length c ∧ CelsIn rk a l.length l w ∧ (∀ b off, a = some ⟨b, off, none⟩ → base ≤ b ∧ b < w.heap.size ∧ off = 0) ∧ (a = none → c = 0) ∧ l.length ≤ c ∧ (c : Int) ≤ 9223372036854775807 := by
  rcases h.2 with ⟨rfl, h0⟩ | ⟨g, cap, cur, rfl, hbase, hg, hc, hm, hs, ht⟩
  · refine ⟨none, 0, by rw [h0], ⟨rfl, .inl (List.length_eq_zero_iff.1 h0)⟩, (fun _ _ e => by cases e), fun _ => rfl, by omega, by omega⟩
  · have hlt := (Array.getElem?_eq_some_iff.1 hg).1
    refine ⟨some ⟨g, 0, none⟩, cap, rfl, ⟨rfl, .inr ⟨g, 0, rfl, hlt, fun i c hi => ?_⟩⟩, (fun b off e => by cases e; exact ⟨hbase, hlt, rfl⟩), (fun e => by cases e), hc, by unfold maxLen at hm; omega⟩
    have hil : i < l.length := (List.getElem?_eq_some_iff.1 hi).1
    have hcell : ∀ j, j < 3 → w.cell? ⟨g, 0 + i * 3 + j, none⟩ = (cCells rk c)[j]? := fun j hj => by
      rw [Nat.zero_add, World.ownsRow.cellAt h (i * 3 + j) (by omega), flatC_get rk l i j c hi hj]
    exact ⟨hcell 0 (by decide), hcell 1 (by decide), hcell 2 (by decide)⟩
theorem OwnC.kept {rk : IntKind} {T : TypeId} {base : Nat} {v : Value} {l : List Cel} {w w' : World} {row : Option Nat} (h : OwnC rk T base v l w) (hg : w.grownBy w' row) (hne : ∀ q, v.ownBlock = some q → row ≠ some q) : OwnC rk T base v l w' := U.kept_apart h hg hne
end Go.Proofs.Ytjlljkdlgkociaa.K

/- append of cells upon cells of our own; a cell that is stored. -/
namespace Go.Proofs.Ytjlljkdlgkociaa.K
open Go.RowKit

/-- t is a slice of the cells T -/
structure CelT (rk : IntKind) (t T : TypeId) (bytes : Nat) : Prop where
  slice : Try.prog.underlying t = some (.slice T)
  info : (Try.prog.info? T).map (fun i => (i.zero, i.size, i.bytes)) = some (some (.agg #[.int rk 0, .int .i64 0, .int .i64 0]), 3, bytes)
  small : bytes ≤ 24
theorem run_append_cells {rk : IntKind} {t T : TypeId} {bytes : Nat} (hI : CelT rk t T bytes) (base : Nat) (v : Value) (l : List Cel) (a : Option Addr) (m c : Nat) (l2 : List Cel) (w : World) (hown : OwnC rk T base v l w) (h : CelsIn rk a m l2 w) (hnil : a = none → c = 0) (h1 : (l.length : Int) ≤ 1000000) (h2 : (l2.length : Int) ≤ 1000000) (hbase : base ≤ w.heap.size) :
    ∃ v' w', (Builtin.append_ #[t, t] t #[v, .slice a m c]).run Try.prog w = .ok v' w' ∧ OwnC rk T base v' (l ++ l2) w' ∧ U.Grew base T 3 v (l.length + m) (flatC rk l ++ flatC rk l2) w v' w' := by
  obtain ⟨i0, hi, hz0, hz1, hz2⟩ := info_parts hI.info
  have hl := h.len
  have hb := hI.small
  have hmul : (l.length + m) * bytes ≤ 140737488355328 := Nat.le_trans (Nat.mul_le_mul (show l.length + m ≤ 2000000 by omega) hb) (by decide)
  have done : ∀ v' w', U.Grew base T 3 v (l.length + m) (flatC rk l ++ flatC rk l2) w v' w' → OwnC rk T base v' (l ++ l2) w' := fun v' w' g => by
    unfold OwnC
    rw [List.length_append, flatC_append, ← hl]
    exact g.own
  cases a with
  | none =>
    have hc := hnil rfl
    have h0 : l2 = [] := by
      rcases h.at_ with h0 | ⟨b, off, e, _⟩
      · exact h0
      · cases e
    subst h0
    obtain rfl : m = 0 := hl
    obtain ⟨hr, g⟩ := U.append_none (P := Try.prog) w t t T i0 3 c hI.slice hi base v l.length (flatC rk l) hown hc
    have g' : U.Grew base T 3 v (l.length + 0) (flatC rk l ++ flatC rk []) w v w := by simpa [flatC] using g
    exact ⟨v, w, hr, done _ _ g', g'⟩
  | some ad =>
    have hnews : ∀ j u, (flatC rk l2)[j]? = some u → w.cell? (ad.add j) = some u := fun j u hj => by
      rcases h.at_ with h0 | ⟨b, off, e, _⟩
      · rw [h0] at hj; simp [flatC] at hj
      · cases e
        exact h.news j u hj
    obtain ⟨v', w', hr, g⟩ := U.append_grew (P := Try.prog) w t t T i0 _ 3 bytes hI.slice hi hz0 hz1 hz2 rfl (by decide) base v l.length (flatC rk l) hown ad m c (flatC rk l2) (by rw [flatC_len, hl]) hnews (flatC_one rk l2) (by unfold maxLen; omega) hmul hbase
    exact ⟨v', w', hr, done _ _ g, g⟩
theorem wpList_append_cells {rk : IntKind} {t T : TypeId} {bytes : Nat} (hI : CelT rk t T bytes) {ops : Array Oper} {rest : List Oper} {o : Oper} {z : Act} {w : World} {Q : Exit → Act → World → Prop} (hgd : o.guard = none) (s x : Operand)
    (ho : o.op = .call { callee := .builtin .append, args := #[s, x], argTypes := #[t, t] }) (hty : o.type = t)
    (base : Nat) (v : Value) (l : List Cel) (a : Option Addr) (m c : Nat) (l2 : List Cel) (hs : z.eval s = v) (hxv : z.eval x = .slice a m c) (hown : OwnC rk T base v l w) (h : CelsIn rk a m l2 w) (hnil : a = none → c = 0) (h1 : (l.length : Int) ≤ 1000000) (h2 : (l2.length : Int) ≤ 1000000) (hbase : base ≤ w.heap.size)
    (hK : ∀ v' w', OwnC rk T base v' (l ++ l2) w' → U.Grew base T 3 v (l.length + m) (flatC rk l ++ flatC rk l2) w v' w' → wpList Try.prog ops Q rest (z.put o.dst v') w') : wpList Try.prog ops Q (o :: rest) z w :=
  wpList_plain hgd fun _ hK' => by
    obtain ⟨v', w', hr, k1, k2⟩ := run_append_cells hI base v l a m c l2 w hown h hnil h1 h2 hbase
    unfold Oper.wp execOp
    simp only [ho, hty, resolve, invoke, builtin, Sem.run_bind, Sem.run_pure, Result.andThen_ok, List.map_toArray, List.map_cons, List.map_nil, hs, hxv, hr]
    exact hK' _ _ (hK v' w' k1 k2)
theorem cels_one {rk : IntKind} (w : World) (c : Cel) (T : TypeId) : CelsIn rk (some ⟨w.heap.size, 0, none⟩) 1 [c] (w.alloc (.cells (cArr rk c) T)) :=
  ⟨rfl, .inr ⟨w.heap.size, 0, rfl, by simp, fun i d hi => by
    have h0 : i = 0 := by have := (List.getElem?_eq_some_iff.1 hi).1; simp at this; omega
    subst h0
    obtain rfl : c = d := by simpa using hi
    exact ⟨by rw [World.cell?_alloc_new]; rfl, by rw [World.cell?_alloc_new]; rfl, by rw [World.cell?_alloc_new]; rfl⟩⟩⟩
/-! ## a cell that is stored -/
end Go.Proofs.Ytjlljkdlgkociaa.K

/- A row that is a struct in memory, or a result; the document's near and Blank. -/
namespace Go.Proofs.Ytjlljkdlgkociaa.K
open Go.RowKit

theorem results_cell {fn : Func} {p : Tmp} {ty : TypeId} (h : fn.results = #[.cell p ty]) (tmps : Array Value) (P : Program) (w : World) :
    (results fn tmps).run P w = ((asAddr (tmps.getD p undef)).run P w).andThen fun a w₁ => (loadVar ty a).run P w₁ := by
  simp only [results, h]
  simp [Sem.run_bind, Result.andThen]
theorem refT : CelT .i64 73 95 24 := ⟨Try.underlying73, by kernel_rfl, by decide⟩
theorem rowT : CelT .i32 48 52 24 := ⟨Try.underlying48, by kernel_rfl, by decide⟩
/-- a row in a block -/
def RoB (t : TypeId) (p : Nat) (v : Value) (b : Bool) (w : World) : Prop := w.heap[p]? = some (.cells #[v, .bool b] t (0, 0))
theorem RoB.new (t : TypeId) (w : World) (v : Value) (b : Bool) : RoB t w.heap.size v b (w.alloc (.cells #[v, .bool b] t)) := World.alloc_heap_new w _
theorem RoB.lt {t : TypeId} {p : Nat} {v : Value} {b : Bool} {w : World} (h : RoB t p v b w) : p < w.heap.size := (Array.getElem?_eq_some_iff.1 h).1
theorem RoB.c0 {t : TypeId} {p : Nat} {v : Value} {b : Bool} {w : World} (h : RoB t p v b w) : w.cell? ⟨p, 0, none⟩ = some v := by simp [World.cell?, show w.heap[p]? = _ from h]
theorem RoB.c1 {t : TypeId} {p : Nat} {v : Value} {b : Bool} {w : World} (h : RoB t p v b w) : w.cell? ⟨p, 1, none⟩ = some (.bool b) := by simp [World.cell?, show w.heap[p]? = _ from h]
theorem RoB.fr {t : TypeId} {p : Nat} {v : Value} {b : Bool} {w : World} (h : RoB t p v b w) (o : Nat) : w.frozen? ⟨p, o, none⟩ = false := by simp [World.frozen?, show w.heap[p]? = _ from h]
theorem RoB.below {t : TypeId} {p : Nat} {v : Value} {b : Bool} {w w' : World} {B : Nat} (h : RoB t p v b w) (hb : Below B w w') (hp : p < B) : RoB t p v b w' := (hb.block p hp).trans h
theorem RoB.belowAll {t : TypeId} {p : Nat} {v : Value} {b : Bool} {w w' : World} (h : RoB t p v b w) (hb : Below w.heap.size w w') : RoB t p v b w' := h.below hb h.lt
theorem RoB.grown {t : TypeId} {p : Nat} {v : Value} {b : Bool} {w w' : World} {row : Option Nat} (h : RoB t p v b w) (hg : w.grownBy w' row) (hne : row ≠ some p) : RoB t p v b w' := (hg.block p h.lt (fun e => hne e.symm)).trans h
theorem below_set2 {base p : Nat} {w0 w : World} {v : Value} {b : Bool} (h : Below base w0 w) (hp : base ≤ p) : Below base w0 ((w.setCell ⟨p, 0, none⟩ v).setCell ⟨p, 1, none⟩ (.bool b)) :=
  (h.setCell (p := ⟨p, 0, none⟩) hp _).setCell (p := ⟨p, 1, none⟩) hp _
/-- what a call answers that makes a row -/
def RowPost (rk : IntKind) (T : TypeId) (base : Nat) (l : List Cel) (b : Bool) (w : World) (e : Ending) (w' : World) : Prop := ∃ v, e = .returned (.agg #[v, .bool b]) ∧ OwnC rk T base v l w' ∧ Below base w w'
theorem OwnC.lit (rk : IntKind) (T : TypeId) (w : World) (base : Nat) (hb : base ≤ w.heap.size) : OwnC rk T base (.slice (some ⟨w.heap.size, 0, none⟩) 0 0) [] (w.alloc (.cells #[] T)) := World.ownsRow_lit w #[] 0 hb (by decide) rfl
theorem OwnC.set2 {rk : IntKind} {T : TypeId} {base : Nat} {v : Value} {l : List Cel} {w : World} (h : OwnC rk T base v l w) {p : Nat} (hp : p < base) (v0 v1 : Value) : OwnC rk T base v l ((w.setCell ⟨p, 0, none⟩ v0).setCell ⟨p, 1, none⟩ v1) := by
  have g1 : ∀ (u : World) (o : Nat) (x : Value), u.grownBy (u.setCell ⟨p, o, none⟩ x) (some p) := fun u o x => ⟨rfl, rfl, rfl, (KeepsWalks.setCell u _ x).size, fun i _ hi => Below.heap_setCell _ _ _ i (fun e => hi (by rw [e]))⟩
  have hne : ∀ {u : World}, OwnC rk T base v l u → ∀ q, v.ownBlock = some q → some p ≠ some q := fun hu q hq e => by have := (hu.ownBlock q hq).1; have := Option.some.inj e; omega
  have h1 := h.kept (g1 w 0 v0) (hne h)
  exact h1.kept (g1 _ 1 v1) (hne h1)

end Go.Proofs.Ytjlljkdlgkociaa.K

/- The contract of the document's mend. -/
namespace Go.Proofs.Ytjlljkdlgkociaa.K
open Go.RowKit

end Go.Proofs.Ytjlljkdlgkociaa.K

/- The program's row: nearest, blank, stray. -/
namespace Go.Proofs.Ytjlljkdlgkociaa.K
open Go.RowKit

def nearS (n most : Int) : Int := min (max n 0) most
theorem nearest_any (n most : Int) (w : World) : Calls Try.prog 96 #[.int .i64 n, .int .i64 most] w fun e w' => e = .returned (.int .i64 (nearS n most)) ∧ w = w' := by
  unfold nearS
  obtain ⟨N, hN⟩ : ∃ N, max n 0 = N := ⟨_, rfl⟩
  rw [hN]
  obtain ⟨M, hM⟩ : ∃ M, min N most = M := ⟨_, rfl⟩
  rw [hM]
  go_enter Try.func96, Try.ntmps96
  go_wp2
  go_ret
  exact ⟨rfl, rfl⟩
/-- a cell that is a result -/
theorem blank_any (s : Int) (w : World) : Calls Try.prog 101 #[.int .i64 s] w fun e w' => e = .returned (.agg #[.int .i32 32, .int .i64 s, .int .i64 0]) ∧ Below w.heap.size w w' := by
  go_enter Try.func101, Try.ntmps101
  go_wp2
  refine bodyPost_ret (v := .agg #[.int .i32 32, .int .i64 s, .int .i64 0]) (by rw [results_cell (fn := Try.f101) rfl]; go_simp <;> rfl) rfl ?_
  refine ⟨rfl, ?_⟩
  first
    | exact (((((Below.refl _ _).alloc (Nat.le_refl _) _).setCell (p := ⟨w.heap.size, 0, none⟩) (Nat.le_refl _) _).setCell (p := ⟨w.heap.size, 1, none⟩) (Nat.le_refl _) _).setCell (p := ⟨w.heap.size, 2, none⟩) (Nat.le_refl _) _)
    | exact (Below.refl _ _).alloc (Nat.le_refl _) _
end Go.Proofs.Ytjlljkdlgkociaa.K

/- The contract of the program's stray. -/
namespace Go.Proofs.Ytjlljkdlgkociaa.K
open Go.RowKit

end Go.Proofs.Ytjlljkdlgkociaa.K

/- The contract of the program's mended: cells of our own, in their place. -/
namespace Go.Proofs.Ytjlljkdlgkociaa.K
open Go.RowKit

theorem below_grown {base g : Nat} {w0 w w' : World} (h : Below base w0 w) (hg : w.grownBy w' (some g)) (hb : base ≤ g) (hs : base ≤ w.heap.size) : Below base w0 w' :=
  ⟨hg.os.trans h.os, hg.tape.trans h.tape, hg.output.trans h.output, Nat.le_trans h.size hg.size, fun k hk => (hg.block k (Nat.lt_of_lt_of_le hk hs) (fun e => by have := Option.some.inj e; omega)).trans (h.block k hk)⟩
theorem OwnC.set2ne {rk : IntKind} {T : TypeId} {base : Nat} {v : Value} {l : List Cel} {w : World} (h : OwnC rk T base v l w) {p : Nat} (hp : ∀ q, v.ownBlock = some q → q ≠ p) (v0 v1 : Value) : OwnC rk T base v l ((w.setCell ⟨p, 0, none⟩ v0).setCell ⟨p, 1, none⟩ v1) := by
  have g1 : ∀ (u : World) (o : Nat) (x : Value), u.grownBy (u.setCell ⟨p, o, none⟩ x) (some p) := fun u o x => ⟨rfl, rfl, rfl, (KeepsWalks.setCell u _ x).size, fun i _ hi => Below.heap_setCell _ _ _ i (fun e => hi (by rw [e]))⟩
  have hne : ∀ q, v.ownBlock = some q → some p ≠ some q := fun q hq e => hp q hq (Option.some.inj e).symm
  exact (h.kept (g1 w 0 v0) hne).kept (g1 _ 1 v1) hne

end Go.Proofs.Ytjlljkdlgkociaa.K

/- The contracts of slices.Clone at cells, and of a product with 1. -/
namespace Go.Proofs.Ytjlljkdlgkociaa.K
open Go.RowKit

/-- what a call answers that makes cells -/
def CelPost (T : TypeId) (base : Nat) (l : List Cel) (w : World) (e : Ending) (w' : World) : Prop := ∃ v, e = .returned v ∧ OwnC .i32 T base v l w' ∧ Below base w w'

set_option maxRecDepth 100000 in
set_option maxHeartbeats 4000000 in
theorem clone_any (a : Option Addr) (n c : Nat) (l : List Cel) (w : World) (hI : CelsIn .i32 a n l w) (hnil : a = none → c = 0) (hn : (n : Int) ≤ 1000000) :
    Calls Try.prog 74 #[.slice a n c] w (CelPost 52 w.heap.size l w) := by
  obtain ⟨P, hP⟩ : ∃ P, CelPost 52 w.heap.size l w = P := ⟨_, rfl⟩
  rw [hP]
  have HP := Lib.hid hP
  cases a with
  | none =>
    obtain rfl := hnil rfl
    obtain rfl : l = [] := by
      rcases hI.at_ with h | ⟨_, _, h, _⟩
      · exact h
      · cases h
    obtain rfl : n = 0 := hI.len
    clear hP hI hnil hn
    have qn : ∀ (w : World), (binOp .eql 48 (.slice none 0 0) (.slice none 0 0)).run Try.prog w = .ok (.bool true) w := fun w => Lib.run_eql_slice_nil w _ _ none 0 0 0 0 Try.underlying48
    go_enter Try.func74, Try.ntmps74
    go_wp2_with fail
    rw [← HP.out]
    exact ⟨_, rfl, OwnC.nil _ _ _ _, Below.refl _ _⟩
  | some ad =>
    have hb1 : Below w.heap.size w (w.alloc (.cells #[] 52)) := (Below.refl _ _).alloc (Nat.le_refl _) _
    have HO1 := Lib.hid (OwnC.lit .i32 52 w w.heap.size (Nat.le_refl _))
    have HI1 := Lib.hid (hI.belowAll hb1)
    have HS1 := Lib.hid hb1.size
    have HLn : Hid ((l.length : Int) ≤ 1000000) := Lib.hid (by rw [← hI.len]; exact hn)
    have HB1 := Lib.hid hb1
    clear hP hb1 hI hnil
    have qn : ∀ (w : World), (binOp .eql 48 (.slice (some ad) n c) (.slice none 0 0)).run Try.prog w = .ok (.bool false) w := fun w => Lib.run_eql_slice_nil w _ _ (some ad) n c 0 0 Try.underlying48
    go_enter Try.func74, Try.ntmps74
    go_wp2_with (refine wpList_append_cells rowT rfl _ _ rfl rfl w.heap.size _ [] (some ad) n c l rfl rfl HO1.out HI1.out (fun e => by cases e) (by simp) HLn.out HS1.out ?_)
    intro v' w' hown hg
    have HE : Hid (OwnC .i32 52 w.heap.size v' l w' ∧ Below w.heap.size w w') := Lib.hid ⟨by simpa using hown, HB1.out.grown hg.grown HS1.out (fun q hq => (HO1.out.ownBlock q hq).1)⟩
    clear hown hg
    go_wp2
    rw [← HP.out]
    exact ⟨_, rfl, HE.out.1, HE.out.2⟩

theorem u64_and32 (n : Nat) (hn : n ≤ 1000000) : bits .and .u64 (n : Int) 4294967295 = (n : Int) := by
  have h := bits_and_u64_nat n 4294967295 (by omega) (by decide)
  rw [show ((4294967295 : Nat) : Int) = 4294967295 from rfl] at h
  rw [h, show (4294967295 : Nat) = 2 ^ 32 - 1 from rfl, Nat.and_two_pow_sub_one_eq_mod, Nat.mod_eq_of_lt (by omega)]
set_option maxRecDepth 100000 in
set_option maxHeartbeats 4000000 in
theorem mul64_one (n : Nat) (hn : n ≤ 1000000) (w : World) : Calls Try.prog 100 #[.int .u64 1, .int .u64 (n : Int)] w fun e w' => e = .returned (.tuple #[.int .u64 0, .int .u64 (n : Int)]) ∧ w = w' := by
  have h1 : bits .and .u64 1 4294967295 = 1 := by decide
  have h2 := u64_and32 n hn
  have h3 : (n : Int) / 4294967296 = 0 := by omega
  have h4 : bits .and .u64 0 4294967295 = 0 := by decide
  go_enter Try.func100, Try.ntmps100
  go_wp2_with fail
  refine bodyPost_ret (results_tmp2 rfl _ _ _) rfl ?_
  exact ⟨rfl, rfl⟩
set_option maxRecDepth 100000 in
set_option maxHeartbeats 4000000 in
theorem mul_one (n : Nat) (hn : n ≤ 1000000) (w : World) : Calls Try.prog 94 #[.int .u64 1, .int .u64 (n : Int)] w fun e w' => e = .returned (.tuple #[.int .u64 0, .int .u64 (n : Int)]) ∧ w = w' := by
  go_enter Try.func94, Try.ntmps94
  go_wp2_with (go_at_call 100; refine (mul64_one n hn w).mono ?_; rintro e w' ⟨rfl, rfl⟩)
  refine bodyPost_ret (results_tmp2 rfl _ _ _) rfl ?_
  exact ⟨rfl, rfl⟩
end Go.Proofs.Ytjlljkdlgkociaa.K
