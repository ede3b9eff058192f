/- Rows of our own, of elements of any type: append upon them, and what it keeps. -/
import Derived.Test.YtgagkmlkoeceiaaRows
import Derived.WalkKit
import Derived.WalkLawsBesides
import Derived.WalkSpells
import Derived.Outline
import Derived.Lib.Hide
import Derived.Below
import Derived.IntWalk
import Derived.OwnWalk
import Derived.ArgAppend
import Derived.Laws.OwnMore
import Derived.Laws.CopyRow
import Derived.Laws.IdiomCopy
namespace Go.Proofs.Ytgagkmlkoeceiaa.U
open Go.RowKit

/-- what append leaves -/
structure Grew (base : Nat) (e : TypeId) (size : Nat) (v : Value) (n : Nat) (out : List Value) (w : World) (v' : Value) (w' : World) : Prop where
  own : w'.ownsRow base e size v' n out
  grown : w.grownBy w' v.ownBlock
  keeps : ∀ x k ys, ys <+: out → w.ownsRow base e size x k ys → w'.ownsRow base e size x k ys
  block : ∀ q, v'.ownBlock = some q → v.ownBlock = some q ∨ w.heap.size ≤ q
theorem weaken {base base' : Nat} {e : TypeId} {size : Nat} {v : Value} {n : Nat} {xs : List Value} {w : World} (h : w.ownsRow base e size v n xs) (hb : base' ≤ base) : w.ownsRow base' e size v n xs := by
  refine ⟨h.1, h.2.imp id ?_⟩
  rintro ⟨g, cap, cur, h1, h2, h3⟩
  exact ⟨g, cap, cur, h1, Nat.le_trans hb h2, h3⟩
theorem belowAll {base : Nat} {e : TypeId} {size : Nat} {v : Value} {n : Nat} {xs : List Value} {w w' : World} (h : w.ownsRow base e size v n xs) (hb : Below w.heap.size w w') : w'.ownsRow base e size v n xs :=
  World.ownsRow.kept h (row := none) ⟨hb.os, hb.tape, hb.output, hb.size, fun k hk _ => hb.block k hk⟩ (by
    cases hv : v.ownBlock with
    | none => exact .inl rfl
    | some k => exact .inr (by simp))
theorem own_type {base size : Nat} {e : TypeId} {v : Value} {n : Nat} {xs : List Value} {w : World} (h : w.ownsRow base e size v n xs) {g : Nat} (hg : v.ownBlock = some g) : ∃ cs, w.heap[g]? = some (.cells cs e (0, 0)) ∧ base ≤ g ∧ g < w.heap.size := by
  rcases h.2 with ⟨rfl, _⟩ | ⟨g', cap, cur, rfl, hb, hgb, _⟩
  · simp [Value.ownBlock] at hg
  · obtain rfl : g' = g := by simpa [Value.ownBlock] using hg
    exact ⟨cur, hgb, hb, (Array.getElem?_eq_some_iff.1 hgb).1⟩
/-- a row of one type is kept where a row of another type grows, or another row -/
theorem kept_apart {base size : Nat} {e : TypeId} {v : Value} {n : Nat} {xs : List Value} {w w' : World} {row : Option Nat} (h : w.ownsRow base e size v n xs) (hg : w.grownBy w' row) (hne : ∀ q, v.ownBlock = some q → row ≠ some q) : w'.ownsRow base e size v n xs :=
  World.ownsRow.kept h hg (by
    cases hv : v.ownBlock with
    | none => exact .inl rfl
    | some q => exact .inr (fun e => hne q hv e.symm))
theorem append_grew {P : Program} (w : World) (t ty e : TypeId) (i : TypeInfo) (z : Value) (size bytes : Nat) (ht : P.underlying t = some (.slice e)) (hi : P.info? e = some i) (hz : i.zero = some z)
    (hsize : i.size = size) (hby : i.bytes = bytes) (hzs : z.cells.size = size) (hsz : 0 < size)
    (base : Nat) (v : Value) (n : Nat) (xs : List Value) (hown : w.ownsRow base e size v n xs)
    (ad : Addr) (m c : Nat) (news : List Value) (hl : news.length = m * size) (hnews : ∀ j u, news[j]? = some u → w.cell? (ad.add j) = some u) (h1 : ∀ u ∈ news, u.oneCell' = true)
    (h63 : n + m ≤ maxLen) (hbytes : (n + m) * bytes ≤ 140737488355328) (hbase : base ≤ w.heap.size) :
    ∃ v' w', (Builtin.append_ #[t, t] ty #[v, .slice (some ad) m c]).run P w = .ok v' w' ∧ Grew base e size v (n + m) (xs ++ news) w v' w' := by
  have fresh : ∀ v' w', w'.ownsRow w.heap.size e size v' (n + m) (xs ++ news) → w.grownBy w' none → Grew base e size v (n + m) (xs ++ news) w v' w' := fun v' w' h2 h3 => by
    have hb : Below w.heap.size w w' := ⟨h3.os, h3.tape, h3.output, h3.size, fun k hk => h3.block k hk (by simp)⟩
    exact ⟨weaken h2 hbase, ⟨h3.os, h3.tape, h3.output, h3.size, fun k hk _ => h3.block k hk (by simp)⟩, fun x k ys _ h => belowAll h hb, fun q hq => .inr (own_type h2 hq).choose_spec.2.1⟩
  rcases hown.2 with ⟨rfl, h0⟩ | ⟨g, cap, cur, rfl, hbg, hg, hnc, hcm, hcs, htake⟩
  · obtain ⟨v', w', hr, h2, h3, _⟩ := run_append_own (P := P) w w.heap.size t ty e i z size bytes ht hi hz hsize hby hzs hsz (.slice none 0 0) n xs ⟨hown.1, .inl ⟨rfl, h0⟩⟩ ad m c news hl hnews h1 h63 hbytes (Nat.le_refl _)
    exact ⟨v', w', hr, fresh v' w' h2 h3⟩
  · by_cases hroom : n + m ≤ cap
    · have hfit : n * size + news.length ≤ cur.size := by rw [hl, hcs, ← Nat.add_mul]; exact Nat.mul_le_mul_right _ hroom
      have hr := run_append_room (P := P) w t ty e i ht hi g n cap cur hg ad m c news (by rw [hl, hsize]) hnews h1 hroom (by rw [hsize]; exact hfit)
      rw [hsize] at hr
      obtain ⟨C2, hC2⟩ : ∃ C2, (cur.toList.take (n * size) ++ news ++ cur.toList.drop (n * size + news.length)) = C2 := ⟨_, rfl⟩
      rw [hC2] at hr
      have hrow := setRow_heap w g cur C2.toArray e (0, 0) hg
      have hlen2 : C2.length = cur.size := by
        rw [← hC2]
        simp only [List.length_append, List.length_take, List.length_drop, Array.length_toList]
        omega
      have hxl : xs.length = n * size := hown.1
      have hpre : C2.take ((n + m) * size) = xs ++ news := by
        rw [← hC2, htake]
        exact List.take_left' (by rw [List.length_append, hxl, hl, Nat.add_mul])
      refine ⟨_, _, hr, ⟨⟨by rw [List.length_append, hxl, hl, Nat.add_mul], .inr ⟨g, cap, C2.toArray, rfl, hbg, hrow, hroom, hcm, by simp [hlen2, hcs], hpre⟩⟩, ⟨rfl, rfl, rfl, by simp, fun k _ hk => setRow_other w g k _ (fun e => hk (by simp [Value.ownBlock, e]))⟩, fun x k ys hp hx2 => ?_, fun q hq => .inl hq⟩⟩
      rcases hx2.2 with ⟨rfl, h0⟩ | ⟨g2, cap2, cur2, rfl, hbg2, hg2, hnc2, hcm2, hcs2, htake2⟩
      · exact ⟨hx2.1, .inl ⟨rfl, h0⟩⟩
      · by_cases hgg : g2 = g
        · subst hgg
          rw [hg] at hg2
          obtain ⟨e1⟩ : cur = cur2 := by
            have := Option.some.inj hg2
            injection this
          refine ⟨hx2.1, .inr ⟨g2, cap2, C2.toArray, rfl, hbg2, hrow, hnc2, hcm2, by rw [← hcs2]; simp [hlen2], ?_⟩⟩
          obtain ⟨r, hr2⟩ := hp
          have hle : ys.length ≤ (n + m) * size := by
            have := congrArg List.length hr2
            rw [List.length_append, List.length_append, hxl, hl, ← Nat.add_mul] at this
            omega
          have h3 : C2.take ys.length = (xs ++ news).take ys.length := by rw [← hpre, List.take_take, Nat.min_eq_left hle]
          rw [← hx2.1, show C2.toArray.toList = C2 from rfl, h3, ← hr2, List.take_left' rfl]
        · exact ⟨hx2.1, .inr ⟨g2, cap2, cur2, rfl, hbg2, (setRow_other w g g2 _ hgg).trans hg2, hnc2, hcm2, hcs2, htake2⟩⟩
    · obtain ⟨v', w', hr, h2, h3⟩ := run_append_arg_grows (P := P) w t ty e i z size bytes ht hi hz hsize hby hzs hsz ⟨g, 0, none⟩ n cap xs hown.1 (hown.cells (g := g) rfl) ad m c news hl hnews (by omega) h63 hbytes
      exact ⟨v', w', hr, fresh v' w' h2 h3⟩
/-- append of none -/
theorem append_none {P : Program} (w : World) (t ty e : TypeId) (i : TypeInfo) (size c : Nat) (ht : P.underlying t = some (.slice e)) (hi : P.info? e = some i) (base : Nat) (v : Value) (n : Nat) (xs : List Value) (hown : w.ownsRow base e size v n xs) (hc : c = 0) :
    (Builtin.append_ #[t, t] ty #[v, .slice none 0 c]).run P w = .ok v w ∧ Grew base e size v n xs w v w := by
  subst hc
  exact ⟨run_append_owned_none w base _ _ _ i size ht hi v n xs hown, hown, ⟨rfl, rfl, rfl, Nat.le_refl _, fun _ _ _ => rfl⟩, fun _ _ _ _ h => h, fun q h => .inl h⟩
end Go.Proofs.Ytgagkmlkoeceiaa.U

/- Rows of our own, of elements of any size: copy into them. -/
namespace Go.Proofs.Ytgagkmlkoeceiaa.U
open Go.RowKit

theorem run_copy_rows {P : Program} (w : World) (dT sT ty elem : TypeId) (size g o dLen dCap : Nat) (a : Addr) (sLen sCap : Nat) (cur : Array Value) (t : TypeId) (cs : List Value)
    (hu : P.underlying dT = some (.slice elem)) (hs : (P.info? elem).map (·.size) = some size)
    (hg : w.heap[g]? = some (.cells cur t (0, 0))) (hn : cs.length = Nat.min sLen dLen * size)
    (hsrc : ∀ j v, cs[j]? = some v → w.cell? (a.add j) = some v) (hfit : o + cs.length ≤ cur.size) (h1 : ∀ v ∈ cs, v.oneCell' = true) :
    (Builtin.copy_ #[dT, sT] ty #[.slice (some ⟨g, o, none⟩) dLen dCap, .slice (some a) sLen sCap]).run P w =
      .ok (goInt (Nat.min sLen dLen : Nat)) (w.setRow g (cur.toList.take o ++ cs ++ cur.toList.drop (o + cs.length)).toArray) := by
  have hl := run_loadCells_list (P := P) w a cs hsrc
  have hst := run_storeCells_at (P := P) g o t cs 0 cur w hg (by simpa using hfit) h1
  cases hq : P.info? elem with
  | none => simp [hq] at hs
  | some i =>
    have hi : i.size = size := by simpa [hq] using hs
    simp [Builtin.copy_, run_underlying hu, Builtin.lenOf, Builtin.firstCells, sizeOf, typeInfo, hq, hi, ← hn, hl, hst]
/-- nothing goes over where one of the two has no element -/
theorem run_copy_zero {P : Program} (w : World) (dT sT ty elem : TypeId) (size : Nat) (d a : Option Addr) (dLen dCap sLen sCap : Nat) (hu : P.underlying dT = some (.slice elem)) (hs : (P.info? elem).map (·.size) = some size) (hn : Nat.min sLen dLen = 0) :
    (Builtin.copy_ #[dT, sT] ty #[.slice d dLen dCap, .slice a sLen sCap]).run P w = .ok (goInt 0) w := by
  cases hq : P.info? elem with
  | none => simp [hq] at hs
  | some i =>
    have hl : ∀ (x : Addr), (loadCells x 0).run P w = .ok #[] w := fun x => by simpa using run_loadCells_list (P := P) w x [] (by simp)
    cases d <;> cases a <;> simp [Builtin.copy_, run_underlying hu, Builtin.lenOf, Builtin.firstCells, sizeOf, typeInfo, hq, hn, storeCells, hl]
/-- so many times the same -/
def rep (n : Nat) (xs : List Value) : List Value := (List.replicate n xs).flatten
theorem rep_length (n : Nat) (xs : List Value) : (rep n xs).length = n * xs.length := by
  induction n with
  | zero => simp [rep]
  | succ n ih =>
    unfold rep at ih ⊢
    rw [List.replicate_succ, List.flatten_cons, List.length_append, ih, Nat.succ_mul]; omega
theorem rep_add (n m : Nat) (xs : List Value) : rep (n + m) xs = rep n xs ++ rep m xs := by
  unfold rep; rw [← List.flatten_append, List.replicate_append_replicate]
theorem rep_take {n k : Nat} (h : k ≤ n) (xs : List Value) : (rep n xs).take (k * xs.length) = rep k xs := by
  obtain ⟨d, rfl⟩ : ∃ d, n = k + d := ⟨n - k, by omega⟩
  rw [rep_add]
  exact List.take_left' (rep_length k xs)
/-- the front of a row that holds so many times the same -/
def Filled (base : Nat) (e : TypeId) (size g n : Nat) (xs : List Value) (j : Nat) (w : World) : Prop := ∃ L, L.take (j * size) = rep j xs ∧ w.ownsRow base e size (.slice (some ⟨g, 0, none⟩) n n) n L
theorem Filled.src {base : Nat} {e : TypeId} {size g n : Nat} {xs : List Value} {k q : Nat} {w : World} (h : Filled base e size g n xs k w) (hx : xs.length = size) (hqk : q ≤ k) (hk : k ≤ n) :
    ∀ j v, (rep q xs)[j]? = some v → w.cell? ((⟨g, 0, none⟩ : Addr).add j) = some v := fun j v hj => by
  obtain ⟨L, hL, hoL⟩ := h
  have hadd : ((⟨g, 0, none⟩ : Addr).add j) = ⟨g, 0 + j, none⟩ := by unfold Addr.add; split <;> simp_all
  rw [hadd, Nat.zero_add]
  have hjl : j < q * size := by have := (List.getElem?_eq_some_iff.1 hj).1; rw [rep_length, hx] at this; exact this
  have h2 : (rep k xs)[j]? = some v := by
    have h3 := rep_take hqk xs
    rw [hx] at h3
    rw [← h3, List.getElem?_take, if_pos hjl] at hj
    exact hj
  rw [← hL, List.getElem?_take] at h2
  split at h2
  · have h5 : k * size ≤ n * size := Nat.mul_le_mul_right _ hk
    have h6 : q * size ≤ k * size := Nat.mul_le_mul_right _ hqk
    exact (World.ownsRow.cellAt hoL j (by omega)).trans h2
  · cases h2
theorem Filled.belowAll {base : Nat} {e : TypeId} {size g n : Nat} {xs : List Value} {k : Nat} {w w' : World} (h : Filled base e size g n xs k w) (hb : Below w.heap.size w w') : Filled base e size g n xs k w' := by
  obtain ⟨L, hL, hoL⟩ := h
  exact ⟨L, hL, U.belowAll hoL hb⟩
theorem Filled.less {base : Nat} {e : TypeId} {size g n : Nat} {xs : List Value} {k q : Nat} {w : World} (h : Filled base e size g n xs (k + q) w) (hx : xs.length = size) : Filled base e size g n xs k w := by
  obtain ⟨L, hL, hoL⟩ := h
  refine ⟨L, ?_, hoL⟩
  have h3 := rep_take (Nat.le_add_right k q) xs
  rw [hx, ← hL, List.take_take, Nat.min_eq_left (Nat.mul_le_mul_right _ (Nat.le_add_right k q))] at h3
  exact h3
end Go.Proofs.Ytgagkmlkoeceiaa.U
