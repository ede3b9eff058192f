/- Rows of our own, of elements of any type: append upon them, and what it keeps. -/
import Derived.Test.YtohhlhnjopbmhaaGreatDoorRows
import Derived.WalkKit
import Derived.WalkLawsBesides
import Derived.WalkSpells
import Derived.Outline
import Derived.Lib.Hide
import Derived.Below
import Derived.IntWalk
import Derived.OwnWalk
import Derived.ArgAppend
import Derived.Laws.OwnMore
import Derived.Test.YtohhlhnjopbmhaaGreatDoorMerged0
namespace Go.Proofs.YtohhlhnjopbmhaaGreatDoor.U
open Go.RowKit

/-- what append leaves -/
structure Grew (base : Nat) (e : TypeId) (size : Nat) (v : Value) (n : Nat) (out : List Value) (w : World) (v' : Value) (w' : World) : Prop where
  own : w'.ownsRow base e size v' n out
  grown : w.grownBy w' v.ownBlock
  keeps : ∀ x k ys, ys <+: out → w.ownsRow base e size x k ys → w'.ownsRow base e size x k ys
  block : ∀ q, v'.ownBlock = some q → v.ownBlock = some q ∨ w.heap.size ≤ q
theorem weaken {base base' : Nat} {e : TypeId} {size : Nat} {v : Value} {n : Nat} {xs : List Value} {w : World} (h : w.ownsRow base e size v n xs) (hb : base' ≤ base) : w.ownsRow base' e size v n xs := by
  refine ⟨h.1, h.2.imp id ?_⟩
  rintro ⟨g, cap, cur, h1, h2, h3⟩
  exact ⟨g, cap, cur, h1, Nat.le_trans hb h2, h3⟩
theorem belowAll {base : Nat} {e : TypeId} {size : Nat} {v : Value} {n : Nat} {xs : List Value} {w w' : World} (h : w.ownsRow base e size v n xs) (hb : Below w.heap.size w w') : w'.ownsRow base e size v n xs :=
  World.ownsRow.kept h (row := none) ⟨hb.os, hb.tape, hb.output, hb.size, fun k hk _ => hb.block k hk⟩ (by
    cases hv : v.ownBlock with
    | none => exact .inl rfl
    | some k => exact .inr (by simp))
theorem own_type {base size : Nat} {e : TypeId} {v : Value} {n : Nat} {xs : List Value} {w : World} (h : w.ownsRow base e size v n xs) {g : Nat} (hg : v.ownBlock = some g) : ∃ cs, w.heap[g]? = some (.cells cs e (0, 0)) ∧ base ≤ g ∧ g < w.heap.size := by
  rcases h.2 with ⟨rfl, _⟩ | ⟨g', cap, cur, rfl, hb, hgb, _⟩
  · simp [Value.ownBlock] at hg
  · obtain rfl : g' = g := by simpa [Value.ownBlock] using hg
    exact ⟨cur, hgb, hb, (Array.getElem?_eq_some_iff.1 hgb).1⟩
/-- a row of one type is kept where a row of another type grows, or another row -/
theorem kept_apart {base size : Nat} {e : TypeId} {v : Value} {n : Nat} {xs : List Value} {w w' : World} {row : Option Nat} (h : w.ownsRow base e size v n xs) (hg : w.grownBy w' row) (hne : ∀ q, v.ownBlock = some q → row ≠ some q) : w'.ownsRow base e size v n xs :=
  World.ownsRow.kept h hg (by
    cases hv : v.ownBlock with
    | none => exact .inl rfl
    | some q => exact .inr (fun e => hne q hv e.symm))
theorem append_grew {P : Program} (w : World) (t ty e : TypeId) (i : TypeInfo) (z : Value) (size bytes : Nat) (ht : P.underlying t = some (.slice e)) (hi : P.info? e = some i) (hz : i.zero = some z)
    (hsize : i.size = size) (hby : i.bytes = bytes) (hzs : z.cells.size = size) (hsz : 0 < size)
    (base : Nat) (v : Value) (n : Nat) (xs : List Value) (hown : w.ownsRow base e size v n xs)
    (ad : Addr) (m c : Nat) (news : List Value) (hl : news.length = m * size) (hnews : ∀ j u, news[j]? = some u → w.cell? (ad.add j) = some u) (h1 : ∀ u ∈ news, u.oneCell' = true)
    (h63 : n + m ≤ maxLen) (hbytes : (n + m) * bytes ≤ 140737488355328) (hbase : base ≤ w.heap.size) :
    ∃ v' w', (Builtin.append_ #[t, t] ty #[v, .slice (some ad) m c]).run P w = .ok v' w' ∧ Grew base e size v (n + m) (xs ++ news) w v' w' := by
  have fresh : ∀ v' w', w'.ownsRow w.heap.size e size v' (n + m) (xs ++ news) → w.grownBy w' none → Grew base e size v (n + m) (xs ++ news) w v' w' := fun v' w' h2 h3 => by
    have hb : Below w.heap.size w w' := ⟨h3.os, h3.tape, h3.output, h3.size, fun k hk => h3.block k hk (by simp)⟩
    exact ⟨weaken h2 hbase, ⟨h3.os, h3.tape, h3.output, h3.size, fun k hk _ => h3.block k hk (by simp)⟩, fun x k ys _ h => belowAll h hb, fun q hq => .inr (own_type h2 hq).choose_spec.2.1⟩
  rcases hown.2 with ⟨rfl, h0⟩ | ⟨g, cap, cur, rfl, hbg, hg, hnc, hcm, hcs, htake⟩
  · obtain ⟨v', w', hr, h2, h3, _⟩ := run_append_own (P := P) w w.heap.size t ty e i z size bytes ht hi hz hsize hby hzs hsz (.slice none 0 0) n xs ⟨hown.1, .inl ⟨rfl, h0⟩⟩ ad m c news hl hnews h1 h63 hbytes (Nat.le_refl _)
    exact ⟨v', w', hr, fresh v' w' h2 h3⟩
  · by_cases hroom : n + m ≤ cap
    · have hfit : n * size + news.length ≤ cur.size := by rw [hl, hcs, ← Nat.add_mul]; exact Nat.mul_le_mul_right _ hroom
      have hr := run_append_room (P := P) w t ty e i ht hi g n cap cur hg ad m c news (by rw [hl, hsize]) hnews h1 hroom (by rw [hsize]; exact hfit)
      rw [hsize] at hr
      obtain ⟨C2, hC2⟩ : ∃ C2, (cur.toList.take (n * size) ++ news ++ cur.toList.drop (n * size + news.length)) = C2 := ⟨_, rfl⟩
      rw [hC2] at hr
      have hrow := setRow_heap w g cur C2.toArray e (0, 0) hg
      have hlen2 : C2.length = cur.size := by
        rw [← hC2]
        simp only [List.length_append, List.length_take, List.length_drop, Array.length_toList]
        omega
      have hxl : xs.length = n * size := hown.1
      have hpre : C2.take ((n + m) * size) = xs ++ news := by
        rw [← hC2, htake]
        exact List.take_left' (by rw [List.length_append, hxl, hl, Nat.add_mul])
      refine ⟨_, _, hr, ⟨⟨by rw [List.length_append, hxl, hl, Nat.add_mul], .inr ⟨g, cap, C2.toArray, rfl, hbg, hrow, hroom, hcm, by simp [hlen2, hcs], hpre⟩⟩, ⟨rfl, rfl, rfl, by simp, fun k _ hk => setRow_other w g k _ (fun e => hk (by simp [Value.ownBlock, e]))⟩, fun x k ys hp hx2 => ?_, fun q hq => .inl hq⟩⟩
      rcases hx2.2 with ⟨rfl, h0⟩ | ⟨g2, cap2, cur2, rfl, hbg2, hg2, hnc2, hcm2, hcs2, htake2⟩
      · exact ⟨hx2.1, .inl ⟨rfl, h0⟩⟩
      · by_cases hgg : g2 = g
        · subst hgg
          rw [hg] at hg2
          obtain ⟨e1⟩ : cur = cur2 := by
            have := Option.some.inj hg2
            injection this
          refine ⟨hx2.1, .inr ⟨g2, cap2, C2.toArray, rfl, hbg2, hrow, hnc2, hcm2, by rw [← hcs2]; simp [hlen2], ?_⟩⟩
          obtain ⟨r, hr2⟩ := hp
          have hle : ys.length ≤ (n + m) * size := by
            have := congrArg List.length hr2
            rw [List.length_append, List.length_append, hxl, hl, ← Nat.add_mul] at this
            omega
          have h3 : C2.take ys.length = (xs ++ news).take ys.length := by rw [← hpre, List.take_take, Nat.min_eq_left hle]
          rw [← hx2.1, show C2.toArray.toList = C2 from rfl, h3, ← hr2, List.take_left' rfl]
        · exact ⟨hx2.1, .inr ⟨g2, cap2, cur2, rfl, hbg2, (setRow_other w g g2 _ hgg).trans hg2, hnc2, hcm2, hcs2, htake2⟩⟩
    · obtain ⟨v', w', hr, h2, h3⟩ := run_append_arg_grows (P := P) w t ty e i z size bytes ht hi hz hsize hby hzs hsz ⟨g, 0, none⟩ n cap xs hown.1 (hown.cells (g := g) rfl) ad m c news hl hnews (by omega) h63 hbytes
      exact ⟨v', w', hr, fresh v' w' h2 h3⟩
/-- append of none -/
theorem append_none {P : Program} (w : World) (t ty e : TypeId) (i : TypeInfo) (size c : Nat) (ht : P.underlying t = some (.slice e)) (hi : P.info? e = some i) (base : Nat) (v : Value) (n : Nat) (xs : List Value) (hown : w.ownsRow base e size v n xs) (hc : c = 0) :
    (Builtin.append_ #[t, t] ty #[v, .slice none 0 c]).run P w = .ok v w ∧ Grew base e size v n xs w v w := by
  subst hc
  exact ⟨run_append_owned_none w base _ _ _ i size ht hi v n xs hown, hown, ⟨rfl, rfl, rfl, Nat.le_refl _, fun _ _ _ => rfl⟩, fun _ _ _ _ h => h, fun q h => .inl h⟩
end Go.Proofs.YtohhlhnjopbmhaaGreatDoor.U

/- Cells in memory: of the program's rows (runes of 32 bits) and of the document's. -/
namespace Go.Proofs.YtohhlhnjopbmhaaGreatDoor.K
open Go.RowKit

def cCells (rk : IntKind) (c : Cel) : List Value := [.int rk c.rune, .int .i64 c.style, .int .i64 c.part]
def cArr (rk : IntKind) (c : Cel) : Array Value := #[.int rk c.rune, .int .i64 c.style, .int .i64 c.part]
def flatC (rk : IntKind) (l : List Cel) : List Value := l.flatMap (cCells rk)
theorem flatC_len (rk : IntKind) (l : List Cel) : (flatC rk l).length = l.length * 3 := by
  induction l with
  | nil => rfl
  | cons c l ih => simp [flatC, List.flatMap_cons, cCells] at ih ⊢; omega
theorem flatC_append (rk : IntKind) (a b : List Cel) : flatC rk (a ++ b) = flatC rk a ++ flatC rk b := List.flatMap_append ..
theorem flatC_get (rk : IntKind) : ∀ (l : List Cel) (i j : Nat) (c : Cel), l[i]? = some c → j < 3 → (flatC rk l)[i * 3 + j]? = (cCells rk c)[j]?
  | [], _, _, _, h, _ => by cases h
  | d :: l, 0, j, c, h, hj => by
    obtain rfl : d = c := by simpa using h
    show (cCells rk d ++ flatC rk l)[0 * 3 + j]? = _
    rw [List.getElem?_append_left (by simp [cCells]; omega)]
    simp
  | d :: l, i + 1, j, c, h, hj => by
    show (cCells rk d ++ flatC rk l)[(i + 1) * 3 + j]? = _
    rw [List.getElem?_append_right (by simp [cCells]; omega)]
    have e : (i + 1) * 3 + j - (cCells rk d).length = i * 3 + j := by simp [cCells]; omega
    rw [e]
    exact flatC_get rk l i j c (by simpa using h) hj
theorem flatC_one (rk : IntKind) (l : List Cel) : ∀ u ∈ flatC rk l, u.oneCell' = true := by
  intro u hu
  obtain ⟨c, _, hu⟩ := List.mem_flatMap.1 hu
  simp only [cCells, List.mem_cons, List.not_mem_nil, or_false] at hu
  rcases hu with rfl | rfl | rfl <;> rfl
/-- one cell in memory -/
structure CelAt (rk : IntKind) (w : World) (b o : Nat) (c : Cel) : Prop where
  c0 : w.cell? ⟨b, o, none⟩ = some (.int rk c.rune)
  c1 : w.cell? ⟨b, o + 1, none⟩ = some (.int .i64 c.style)
  c2 : w.cell? ⟨b, o + 2, none⟩ = some (.int .i64 c.part)
theorem CelAt.block {rk : IntKind} {w w' : World} {b o : Nat} {c : Cel} (h : CelAt rk w b o c) (hb : w'.heap[b]? = w.heap[b]?) : CelAt rk w' b o c :=
  ⟨(World.cell?_of_block (a := ⟨b, o, none⟩) hb).trans h.c0, (World.cell?_of_block (a := ⟨b, o + 1, none⟩) hb).trans h.c1, (World.cell?_of_block (a := ⟨b, o + 2, none⟩) hb).trans h.c2⟩
theorem CelAt.get {rk : IntKind} {w : World} {b o : Nat} {c : Cel} (h : CelAt rk w b o c) (j : Nat) (u : Value) (hj : (cCells rk c)[j]? = some u) : w.cell? ⟨b, o + j, none⟩ = some u := by
  match j, hj with
  | 0, hj => rw [show u = .int rk c.rune by simpa [cCells] using hj.symm]; exact h.c0
  | 1, hj => rw [show u = .int .i64 c.style by simpa [cCells] using hj.symm]; exact h.c1
  | 2, hj => rw [show u = .int .i64 c.part by simpa [cCells] using hj.symm]; exact h.c2
  | n + 3, hj => simp [cCells] at hj
/-- a slice of cells -/
structure CelsIn (rk : IntKind) (a : Option Addr) (n : Nat) (l : List Cel) (w : World) : Prop where
  len : n = l.length
  at_ : l = [] ∨ ∃ b off, a = some ⟨b, off, none⟩ ∧ b < w.heap.size ∧ ∀ i c, l[i]? = some c → CelAt rk w b (off + i * 3) c
theorem CelsIn.blocks {rk : IntKind} {a : Option Addr} {n : Nat} {l : List Cel} {w w' : World} (h : CelsIn rk a n l w) (hs : w.heap.size ≤ w'.heap.size) (hk : ∀ b off, a = some ⟨b, off, none⟩ → b < w.heap.size → w'.heap[b]? = w.heap[b]?) : CelsIn rk a n l w' := by
  refine ⟨h.len, h.at_.imp id ?_⟩
  rintro ⟨b, off, ha, hl, hi⟩
  exact ⟨b, off, ha, Nat.lt_of_lt_of_le hl hs, fun i c hc => (hi i c hc).block (hk b off ha hl)⟩
theorem CelsIn.belowAll {rk : IntKind} {a : Option Addr} {n : Nat} {l : List Cel} {w w' : World} (h : CelsIn rk a n l w) (hb : Below w.heap.size w w') : CelsIn rk a n l w' := h.blocks hb.size (fun b _ _ hl => hb.block b hl)
theorem CelsIn.take {rk : IntKind} {a : Option Addr} {n : Nat} {l : List Cel} {w : World} (h : CelsIn rk a n l w) {k : Nat} (hk : k ≤ n) : CelsIn rk a k (l.take k) w := by
  have hl := h.len
  refine ⟨by rw [List.length_take]; omega, ?_⟩
  rcases h.at_ with e | ⟨b, off, ha, hb, hi⟩
  · left; rw [e]; simp
  · exact .inr ⟨b, off, ha, hb, fun i c hc => hi i c (by rw [List.getElem?_take] at hc; split at hc; exact hc; cases hc)⟩
theorem CelsIn.drop {rk : IntKind} {b off n : Nat} {l : List Cel} {w : World} (h : CelsIn rk (some ⟨b, off, none⟩) n l w) {k : Nat} (hk : k ≤ n) : CelsIn rk (some ⟨b, off + k * 3, none⟩) (n - k) (l.drop k) w := by
  have hl := h.len
  refine ⟨by rw [List.length_drop]; omega, ?_⟩
  rcases h.at_ with e | ⟨b', off', ha, hb, hi⟩
  · left; rw [e]; simp
  · cases ha
    refine .inr ⟨b, off + k * 3, rfl, hb, fun i c hc => ?_⟩
    rw [List.getElem?_drop] at hc
    have := hi (k + i) c hc
    rw [show off + k * 3 + i * 3 = off + (k + i) * 3 by omega]
    exact this
/-- nothing is left, wherever it starts -/
theorem CelsIn.empty (rk : IntKind) (a : Option Addr) (w : World) : CelsIn rk a 0 [] w := ⟨rfl, .inl rfl⟩
theorem CelsIn.news {rk : IntKind} {b off n : Nat} {l : List Cel} {w : World} (h : CelsIn rk (some ⟨b, off, none⟩) n l w) : ∀ j u, (flatC rk l)[j]? = some u → w.cell? ((⟨b, off, none⟩ : Addr).add j) = some u := by
  intro j u hj
  have hadd : ((⟨b, off, none⟩ : Addr).add j) = ⟨b, off + j, none⟩ := by unfold Addr.add; split <;> simp_all
  rw [hadd]
  have hlt : j < l.length * 3 := by have := (List.getElem?_eq_some_iff.1 hj).1; rw [flatC_len] at this; exact this
  rcases h.at_ with e | ⟨b', off', ha, hb, hi⟩
  · rw [e] at hlt; simp at hlt
  · cases ha
    have hjl : j / 3 < l.length := by omega
    have h1 := hi (j / 3) l[j / 3] (List.getElem?_eq_getElem hjl)
    have h2 := flatC_get rk l (j / 3) (j % 3) l[j / 3] (List.getElem?_eq_getElem hjl) (by omega)
    rw [show j / 3 * 3 + j % 3 = j by omega, hj] at h2
    have h3 := h1.get (j % 3) u h2.symm
    rw [show off + j = off + j / 3 * 3 + j % 3 by omega]
    exact h3
/-- cells of our own -/
def OwnC (rk : IntKind) (T : TypeId) (base : Nat) (v : Value) (l : List Cel) (w : World) : Prop := w.ownsRow base T 3 v l.length (flatC rk l)
theorem OwnC.nil (rk : IntKind) (T : TypeId) (base : Nat) (w : World) : OwnC rk T base (.slice none 0 0) [] w := World.ownsRow_nil _ _ _ _
theorem OwnC.belowAll {rk : IntKind} {T : TypeId} {base : Nat} {v : Value} {l : List Cel} {w w' : World} (h : OwnC rk T base v l w) (hb : Below w.heap.size w w') : OwnC rk T base v l w' := U.belowAll h hb
theorem OwnC.alloc {rk : IntKind} {T : TypeId} {base : Nat} {v : Value} {l : List Cel} {w : World} (h : OwnC rk T base v l w) (o : Obj) : OwnC rk T base v l (w.alloc o) := h.belowAll ((Below.refl _ _).alloc (Nat.le_refl _) o)
theorem OwnC.weaken {rk : IntKind} {T : TypeId} {base base' : Nat} {v : Value} {l : List Cel} {w : World} (h : OwnC rk T base v l w) (hb : base' ≤ base) : OwnC rk T base' v l w := U.weaken h hb
theorem OwnC.ownBlock {rk : IntKind} {T : TypeId} {base : Nat} {v : Value} {l : List Cel} {w : World} (h : OwnC rk T base v l w) : ∀ q, v.ownBlock = some q → base ≤ q ∧ q < w.heap.size := fun q hq => ⟨(U.own_type h hq).choose_spec.2.1, (U.own_type h hq).choose_spec.2.2⟩
theorem OwnC.shape {rk : IntKind} {T : TypeId} {base : Nat} {v : Value} {l : List Cel} {w : World} (h : OwnC rk T base v l w) : ∃ a c, v = .slice a l.length c ∧ CelsIn rk a l.length l w ∧ (∀ b off, a = some ⟨b, off, none⟩ → base ≤ b ∧ b < w.heap.size ∧ off = 0) ∧ (a = none → c = 0) ∧ l.length ≤ c ∧ (c : Int) ≤ 9223372036854775807 := by
  rcases h.2 with ⟨rfl, h0⟩ | ⟨g, cap, cur, rfl, hbase, hg, hc, hm, hs, ht⟩
  · refine ⟨none, 0, by rw [h0], ⟨rfl, .inl (List.length_eq_zero_iff.1 h0)⟩, (fun _ _ e => by cases e), fun _ => rfl, by omega, by omega⟩
  · have hlt := (Array.getElem?_eq_some_iff.1 hg).1
    refine ⟨some ⟨g, 0, none⟩, cap, rfl, ⟨rfl, .inr ⟨g, 0, rfl, hlt, fun i c hi => ?_⟩⟩, (fun b off e => by cases e; exact ⟨hbase, hlt, rfl⟩), (fun e => by cases e), hc, by unfold maxLen at hm; omega⟩
    have hil : i < l.length := (List.getElem?_eq_some_iff.1 hi).1
    have hcell : ∀ j, j < 3 → w.cell? ⟨g, 0 + i * 3 + j, none⟩ = (cCells rk c)[j]? := fun j hj => by
      rw [Nat.zero_add, World.ownsRow.cellAt h (i * 3 + j) (by omega), flatC_get rk l i j c hi hj]
    exact ⟨hcell 0 (by decide), hcell 1 (by decide), hcell 2 (by decide)⟩
theorem OwnC.kept {rk : IntKind} {T : TypeId} {base : Nat} {v : Value} {l : List Cel} {w w' : World} {row : Option Nat} (h : OwnC rk T base v l w) (hg : w.grownBy w' row) (hne : ∀ q, v.ownBlock = some q → row ≠ some q) : OwnC rk T base v l w' := U.kept_apart h hg hne
end Go.Proofs.YtohhlhnjopbmhaaGreatDoor.K

/- append of cells upon cells of our own; a cell that is stored. -/
namespace Go.Proofs.YtohhlhnjopbmhaaGreatDoor.K
open Go.RowKit

/-- t is a slice of the cells T -/
structure CelT (rk : IntKind) (t T : TypeId) (bytes : Nat) : Prop where
  slice : Tryz.prog.underlying t = some (.slice T)
  info : (Tryz.prog.info? T).map (fun i => (i.zero, i.size, i.bytes)) = some (some (.agg #[.int rk 0, .int .i64 0, .int .i64 0]), 3, bytes)
  small : bytes ≤ 24
theorem run_append_cells {rk : IntKind} {t T : TypeId} {bytes : Nat} (hI : CelT rk t T bytes) (base : Nat) (v : Value) (l : List Cel) (a : Option Addr) (m c : Nat) (l2 : List Cel) (w : World) (hown : OwnC rk T base v l w) (h : CelsIn rk a m l2 w) (hnil : a = none → c = 0) (h1 : (l.length : Int) ≤ 1000000) (h2 : (l2.length : Int) ≤ 1000000) (hbase : base ≤ w.heap.size) :
    ∃ v' w', (Builtin.append_ #[t, t] t #[v, .slice a m c]).run Tryz.prog w = .ok v' w' ∧ OwnC rk T base v' (l ++ l2) w' ∧ U.Grew base T 3 v (l.length + m) (flatC rk l ++ flatC rk l2) w v' w' := by
  obtain ⟨i0, hi, hz0, hz1, hz2⟩ := info_parts hI.info
  have hl := h.len
  have hb := hI.small
  have hmul : (l.length + m) * bytes ≤ 140737488355328 := Nat.le_trans (Nat.mul_le_mul (show l.length + m ≤ 2000000 by omega) hb) (by decide)
  have done : ∀ v' w', U.Grew base T 3 v (l.length + m) (flatC rk l ++ flatC rk l2) w v' w' → OwnC rk T base v' (l ++ l2) w' := fun v' w' g => by
    unfold OwnC
    rw [List.length_append, flatC_append, ← hl]
    exact g.own
  cases a with
  | none =>
    have hc := hnil rfl
    have h0 : l2 = [] := by
      rcases h.at_ with h0 | ⟨b, off, e, _⟩
      · exact h0
      · cases e
    subst h0
    obtain rfl : m = 0 := hl
    obtain ⟨hr, g⟩ := U.append_none (P := Tryz.prog) w t t T i0 3 c hI.slice hi base v l.length (flatC rk l) hown hc
    have g' : U.Grew base T 3 v (l.length + 0) (flatC rk l ++ flatC rk []) w v w := by simpa [flatC] using g
    exact ⟨v, w, hr, done _ _ g', g'⟩
  | some ad =>
    have hnews : ∀ j u, (flatC rk l2)[j]? = some u → w.cell? (ad.add j) = some u := fun j u hj => by
      rcases h.at_ with h0 | ⟨b, off, e, _⟩
      · rw [h0] at hj; simp [flatC] at hj
      · cases e
        exact h.news j u hj
    obtain ⟨v', w', hr, g⟩ := U.append_grew (P := Tryz.prog) w t t T i0 _ 3 bytes hI.slice hi hz0 hz1 hz2 rfl (by decide) base v l.length (flatC rk l) hown ad m c (flatC rk l2) (by rw [flatC_len, hl]) hnews (flatC_one rk l2) (by unfold maxLen; omega) hmul hbase
    exact ⟨v', w', hr, done _ _ g, g⟩
theorem wpList_append_cells {rk : IntKind} {t T : TypeId} {bytes : Nat} (hI : CelT rk t T bytes) {ops : Array Oper} {rest : List Oper} {o : Oper} {z : Act} {w : World} {Q : Exit → Act → World → Prop} (hgd : o.guard = none) (s x : Operand)
    (ho : o.op = .call { callee := .builtin .append, args := #[s, x], argTypes := #[t, t] }) (hty : o.type = t)
    (base : Nat) (v : Value) (l : List Cel) (a : Option Addr) (m c : Nat) (l2 : List Cel) (hs : z.eval s = v) (hxv : z.eval x = .slice a m c) (hown : OwnC rk T base v l w) (h : CelsIn rk a m l2 w) (hnil : a = none → c = 0) (h1 : (l.length : Int) ≤ 1000000) (h2 : (l2.length : Int) ≤ 1000000) (hbase : base ≤ w.heap.size)
    (hK : ∀ v' w', OwnC rk T base v' (l ++ l2) w' → U.Grew base T 3 v (l.length + m) (flatC rk l ++ flatC rk l2) w v' w' → wpList Tryz.prog ops Q rest (z.put o.dst v') w') : wpList Tryz.prog ops Q (o :: rest) z w :=
  wpList_plain hgd fun _ hK' => by
    obtain ⟨v', w', hr, k1, k2⟩ := run_append_cells hI base v l a m c l2 w hown h hnil h1 h2 hbase
    unfold Oper.wp execOp
    simp only [ho, hty, resolve, invoke, builtin, Sem.run_bind, Sem.run_pure, Result.andThen_ok, List.map_toArray, List.map_cons, List.map_nil, hs, hxv, hr]
    exact hK' _ _ (hK v' w' k1 k2)
/-- a slice of one cell, just built -/
theorem run_slice_cell {rk : IntKind} {t T : TypeId} {bytes : Nat} (hI : CelT rk t T bytes) (w : World) (c : Cel) : (Instr.buildSlice t 1 #[(0, .agg (cArr rk c))]).run Tryz.prog w = .ok (.slice (some ⟨w.heap.size, 0, none⟩) 1 1) (w.alloc (.cells (cArr rk c) T)) := by
  obtain ⟨i0, hi, hz0, hz1, hz2⟩ := info_parts hI.info
  unfold cArr
  have hsz : ∀ w, (sizeOf T).run Tryz.prog w = .ok 3 w := fun w => by simp [sizeOf, typeInfo, hi, hz1]
  have hz : ∀ w, (zeroValue T).run Tryz.prog w = .ok (.agg #[.int rk 0, .int .i64 0, .int .i64 0]) w := fun w => by simp [zeroValue, typeInfo, hi, hz0]
  simp only [Instr.buildSlice, Sem.run_bind, run_underlying hI.slice, Result.andThen_ok, hsz, Nat.one_mul, Sem.run_pure, hz, show ¬ (3 > 2 ^ 24) by decide, if_false, show ¬ (3 = 0) by decide]
  simp [Instr.fill, newRow, show Array.range 3 = #[0, 1, 2] by decide, List.zipIdx, Value.cells]
theorem cels_one {rk : IntKind} (w : World) (c : Cel) (T : TypeId) : CelsIn rk (some ⟨w.heap.size, 0, none⟩) 1 [c] (w.alloc (.cells (cArr rk c) T)) :=
  ⟨rfl, .inr ⟨w.heap.size, 0, rfl, by simp, fun i d hi => by
    have h0 : i = 0 := by have := (List.getElem?_eq_some_iff.1 hi).1; simp at this; omega
    subst h0
    obtain rfl : c = d := by simpa using hi
    exact ⟨by rw [World.cell?_alloc_new]; rfl, by rw [World.cell?_alloc_new]; rfl, by rw [World.cell?_alloc_new]; rfl⟩⟩⟩
/-- a cell that is built, boxed and put behind others: in one step -/
theorem wpList_add_cell {rk : IntKind} {t T : TypeId} {bytes : Nat} (hI : CelT rk t T bytes) {ops : Array Oper} {rest : List Oper} {z : Act} {w : World} {Q : Exit → Act → World → Prop} {d1 d2 : Option Tmp} {x a y : Operand} {t1 : TypeId} {p1 p2 : String} {f1 f2 : Array Edge}
    (base : Nat) (v : Value) (l : List Cel) (c : Cel) (hx : z.eval x = .agg (cArr rk c))
    (ha : (z.put d1 (.slice (some ⟨w.heap.size, 0, none⟩) 1 1)).eval a = v) (hy : (z.put d1 (.slice (some ⟨w.heap.size, 0, none⟩) 1 1)).eval y = .slice (some ⟨w.heap.size, 0, none⟩) 1 1)
    (hown : OwnC rk T base v l w) (hl : (l.length : Int) ≤ 1000000) (hbase : base ≤ w.heap.size)
    (hK : ∀ v' w', OwnC rk T base v' (l ++ [c]) w' → (∀ w0, Below base w0 w → Below base w0 w') → base ≤ w'.heap.size → wpList Tryz.prog ops Q rest ((z.put d1 (.slice (some ⟨w.heap.size, 0, none⟩) 1 1)).put d2 v') w') :
    wpList Tryz.prog ops Q (⟨d1, .buildSlice t 1 #[(0, x)], t1, p1, f1, none⟩ :: ⟨d2, .call { callee := .builtin .append, args := #[a, y], argTypes := #[t, t] }, t, p2, f2, none⟩ :: rest) z w :=
  wpList_plain rfl fun _ hK' => by
    unfold Oper.wp execOp
    simp only [List.map_toArray, List.map_cons, List.map_nil, hx, run_slice_cell hI, Sem.run_bind, Result.andThen_ok, Sem.run_pure]
    refine hK' _ _ ?_
    refine wpList_append_cells hI rfl a y rfl rfl base v l (some ⟨w.heap.size, 0, none⟩) 1 1 [c] ha hy (hown.alloc _) (cels_one w c T) (fun e => by cases e) hl (by simp) (by simp; omega) ?_
    intro v' w' h1 h2
    exact hK v' w' h1 (fun w0 hb => (hb.alloc hbase _).grown h2.grown (by simp; omega) (fun q hq => (hown.ownBlock q hq).1)) (by have := h2.grown.size; simp at this; omega)
/-! ## a cell that is stored -/
end Go.Proofs.YtohhlhnjopbmhaaGreatDoor.K
