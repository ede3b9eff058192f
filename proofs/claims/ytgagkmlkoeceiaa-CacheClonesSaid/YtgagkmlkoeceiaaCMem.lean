/- A cache in memory: lines in a ring, and a map of their numbers. -/
import Derived.Test.YtgagkmlkoeceiaaHBase
import Derived.Maps.OwnIn
import Derived.Maps.OwnSet
import Derived.Maps.Views
namespace Go.Proofs.Ytgagkmlkoeceiaa.C
open Go.RowKit Go.Maps Go.Proofs.Ytgagkmlkoeceiaa.H

/-! ### links -/
def NextIs (w : World) (x y : Nat) : Prop := w.cell? ⟨x, 3, none⟩ = some (.pointer (some ⟨y, 0, none⟩))
def PrevIs (w : World) (y x : Nat) : Prop := w.cell? ⟨y, 2, none⟩ = some (.pointer (some ⟨x, 0, none⟩))
/-- each one's newer is the next, whose elder it is -/
def Links (w : World) : List Nat → Prop
  | x :: y :: r => NextIs w x y ∧ PrevIs w y x ∧ Links w (y :: r)
  | _ => True
theorem Links.append {w : World} : ∀ (A : List Nat) (m : Nat) (B : List Nat), Links w (A ++ m :: B) ↔ Links w (A ++ [m]) ∧ Links w (m :: B)
  | [], m, B => by simp [Links]
  | [a], m, B => by simp [Links, and_assoc]
  | a :: b :: A, m, B => by
    have := Links.append (w := w) (b :: A) m B
    simp only [List.cons_append, Links] at this ⊢
    rw [this]
    simp only [and_assoc]
theorem Links.congr {w w' : World} : ∀ (l : List Nat), (∀ u ∈ l.dropLast, w'.cell? ⟨u, 3, none⟩ = w.cell? ⟨u, 3, none⟩) → (∀ v ∈ l.tail, w'.cell? ⟨v, 2, none⟩ = w.cell? ⟨v, 2, none⟩) → Links w l → Links w' l
  | [], _, _, _ => trivial
  | [_], _, _, _ => trivial
  | x :: y :: r, h3, h2, h => ⟨(h3 x (by simp)).trans h.1, (h2 y (by simp)).trans h.2.1, Links.congr (y :: r) (fun u hu => h3 u (by rw [List.dropLast_cons_cons]; exact List.mem_cons_of_mem _ hu)) (fun v hv => h2 v (List.mem_cons_of_mem _ hv)) h.2.2⟩
/-- the last of a list, and what is ahead of it -/
theorem lastOf (e : Nat) (bs : List Nat) : ∃ A p, e :: bs = A ++ [p] := ⟨(e :: bs).dropLast, (e :: bs).getLast (by simp), (List.dropLast_concat_getLast (by simp)).symm⟩
theorem headOf (bs : List Nat) (e : Nat) : ∃ q B, bs ++ [e] = q :: B := by
  cases bs with
  | nil => exact ⟨e, [], rfl⟩
  | cons b bs => exact ⟨b, bs ++ [e], rfl⟩
theorem Links.join {w w' : World} {e x p : Nat} {bs A : List Nat} (h : Links w (e :: bs ++ [e])) (nd : (e :: bs).Nodup) (hA : e :: bs = A ++ [p]) (hx : x ∉ e :: bs)
    (x3 : NextIs w' x e) (x2 : PrevIs w' x p) (p3 : NextIs w' p x) (e2 : PrevIs w' e x)
    (o3 : ∀ u, u ≠ x → u ≠ p → w'.cell? ⟨u, 3, none⟩ = w.cell? ⟨u, 3, none⟩) (o2 : ∀ u, u ≠ x → u ≠ e → w'.cell? ⟨u, 2, none⟩ = w.cell? ⟨u, 2, none⟩) : Links w' (e :: (bs ++ [x]) ++ [e]) := by
  have e1 : e :: (bs ++ [x]) ++ [e] = A ++ p :: [x, e] := by
    rw [show e :: (bs ++ [x]) ++ [e] = (e :: bs) ++ [x, e] by simp, hA]; simp
  have h1 : Links w (A ++ [p]) := by
    rw [show e :: bs ++ [e] = A ++ p :: [e] by rw [hA]; simp] at h
    exact ((Links.append A p [e]).1 h).1
  rw [e1, Links.append]
  refine ⟨Links.congr _ (fun u hu => ?_) (fun v hv => ?_) h1, p3, x2, x3, e2, trivial⟩
  · rw [List.dropLast_concat] at hu
    have nd' := nd
    rw [hA] at nd'
    refine o3 u (fun e' => hx (by rw [hA, ← e']; exact List.mem_append_left _ hu)) (fun e' => ?_)
    subst e'
    exact (List.nodup_append.1 nd').2.2 u hu u (by simp) rfl
  · rw [← hA] at hv
    have hv' : v ∈ bs := hv
    refine o2 v (fun e' => hx (by rw [← e']; exact List.mem_cons_of_mem _ hv')) (fun e' => ?_)
    subst e'
    exact (List.nodup_cons.1 nd).1 hv'
theorem Links.leave {w w' : World} {e x p q : Nat} {ls cs A B : List Nat} (h : Links w (e :: (ls ++ x :: cs) ++ [e])) (nd : (e :: (ls ++ x :: cs)).Nodup) (hA : e :: ls = A ++ [p]) (hB : cs ++ [e] = q :: B)
    (p3 : NextIs w' p q) (q2 : PrevIs w' q p)
    (o3 : ∀ u, u ≠ p → w'.cell? ⟨u, 3, none⟩ = w.cell? ⟨u, 3, none⟩) (o2 : ∀ u, u ≠ q → w'.cell? ⟨u, 2, none⟩ = w.cell? ⟨u, 2, none⟩) : Links w' (e :: (ls ++ cs) ++ [e]) := by
  have e1 : e :: (ls ++ cs) ++ [e] = A ++ p :: q :: B := by
    rw [show e :: (ls ++ cs) ++ [e] = (e :: ls) ++ (cs ++ [e]) by simp, hA, hB]; simp
  have e0 : e :: (ls ++ x :: cs) ++ [e] = A ++ p :: x :: q :: B := by
    rw [show e :: (ls ++ x :: cs) ++ [e] = (e :: ls) ++ x :: (cs ++ [e]) by simp, hA, hB]; simp
  rw [e0, Links.append] at h
  obtain ⟨h1, -, -, -, -, h2⟩ := h
  have ndA : (e :: ls).Nodup := by
    rw [show e :: (ls ++ x :: cs) = (e :: ls) ++ x :: cs by simp] at nd
    exact (List.nodup_append.1 nd).1
  have ndX : ∀ u ∈ e :: ls, ∀ v ∈ x :: cs, u ≠ v := by
    rw [show e :: (ls ++ x :: cs) = (e :: ls) ++ x :: cs by simp] at nd
    exact (List.nodup_append.1 nd).2.2
  have ndC : (x :: cs).Nodup := by
    rw [show e :: (ls ++ x :: cs) = (e :: ls) ++ x :: cs by simp] at nd
    exact (List.nodup_append.1 nd).2.1
  have hp : p ∈ e :: ls := by rw [hA]; simp
  rw [e1, Links.append]
  refine ⟨Links.congr _ (fun u hu => ?_) (fun v hv => ?_) h1, p3, q2, Links.congr _ (fun u hu => ?_) (fun v hv => ?_) h2⟩
  · rw [List.dropLast_concat] at hu
    have nd' := ndA
    rw [hA] at nd'
    refine o3 u (fun e' => ?_)
    subst e'
    exact (List.nodup_append.1 nd').2.2 u hu u (by simp) rfl
  · rw [← hA] at hv
    have hv' : v ∈ ls := hv
    refine o2 v (fun e' => ?_)
    have hq : q ∈ cs ++ [e] := by rw [hB]; simp
    rcases List.mem_append.1 hq with hq | hq
    · exact ndX v (List.mem_cons_of_mem _ hv') q (List.mem_cons_of_mem _ hq) e'
    · exact (List.nodup_cons.1 ndA).1 (by rw [← (by simpa using hq : q = e), ← e']; exact hv')
  · rw [← hB, List.dropLast_concat] at hu
    exact o3 u (fun e' => ndX p hp u (List.mem_cons_of_mem _ hu) e'.symm)
  · have hv' : v ∈ B := hv
    refine o2 v (fun e' => ?_)
    have hnd : (cs ++ [e]).Nodup := List.nodup_append.2 ⟨(List.nodup_cons.1 ndC).2, by simp, fun a ha b hb e9 => ndX e (by simp) a (List.mem_cons_of_mem _ ha) (by rw [e9]; exact (by simpa using hb : b = e).symm)⟩
    rw [hB] at hnd
    exact (List.nodup_cons.1 hnd).1 (e' ▸ hv')
/-- who stands beside a line -/
theorem Links.beside {w : World} {e x p q : Nat} {ls cs A B : List Nat} (h : Links w (e :: (ls ++ x :: cs) ++ [e])) (hA : e :: ls = A ++ [p]) (hB : cs ++ [e] = q :: B) : NextIs w p x ∧ PrevIs w x p ∧ NextIs w x q ∧ PrevIs w q x := by
  rw [show e :: (ls ++ x :: cs) ++ [e] = A ++ p :: x :: q :: B by
    rw [show e :: (ls ++ x :: cs) ++ [e] = (e :: ls) ++ x :: (cs ++ [e]) by simp, hA, hB]; simp, Links.append] at h
  exact ⟨h.2.1, h.2.2.1, h.2.2.2.1, h.2.2.2.2.1⟩
theorem Links.ends {w : World} {e p : Nat} {bs A : List Nat} (h : Links w (e :: bs ++ [e])) (hA : e :: bs = A ++ [p]) : NextIs w p e ∧ PrevIs w e p := by
  rw [show e :: bs ++ [e] = A ++ p :: [e] by rw [hA]; simp, Links.append] at h
  exact ⟨h.2.1, h.2.2.1⟩
theorem Links.first {w : World} {e q : Nat} {bs B : List Nat} (h : Links w (e :: bs ++ [e])) (hB : bs ++ [e] = q :: B) : NextIs w e q := by
  rw [show e :: bs ++ [e] = e :: (bs ++ [e]) by simp, hB] at h
  exact h.1

/-! ### the map -/
def ptrR : Value → Option (DataW Unit × List MemPlace)
  | .pointer none => some (.lit (.bool false), [])
  | .pointer (some ⟨b, 0, none⟩) => some (.lit (.int .i64 (b : Int)), [])
  | _ => none
theorem ptrR_inv {v : Value} {z : DataW Unit × List MemPlace} (h : ptrR v = some z) : (v = .pointer none ∧ z = (.lit (.bool false), [])) ∨ ∃ b : Nat, v = .pointer (some ⟨b, 0, none⟩) ∧ z = (.lit (.int .i64 (b : Int)), []) := by
  unfold ptrR at h
  split at h
  · cases h; exact .inl ⟨rfl, rfl⟩
  · cases h; exact .inr ⟨_, rfl, rfl⟩
  · cases h
def kz (i : Int) : Lit := .int .i64 i
theorem kz_ne {i j : Int} (h : i ≠ j) : kz i ≠ kz j := by intro e; unfold kz at e; injection e with _ e; exact h e
theorem kz_key (i : Int) : WideAt.IsKeyLit (kz i) := by first | trivial | simp [WideAt.IsKeyLit, kz]
theorem kz_wf {i : Int} (h : -9223372036854775808 ≤ i ∧ i ≤ 9223372036854775807) : (kz i).wf = true := by
  have e1 : IntKind.i64.min = -9223372036854775808 := by decide
  have e2 : IntKind.i64.max = 9223372036854775807 := by decide
  simp only [kz, Lit.wf, e1, e2, Bool.and_eq_true, decide_eq_true_eq]
  omega
/-- the map has just these numbers, and where their lines are -/
structure MapIs (D : DataW Unit) (es : List (Int × Nat)) : Prop where
  has : ∀ i, has D (kz i) = es.any (·.1 == i)
  at_ : ∀ x ∈ es, D.atKey (kz x.1) (.lit (.bool false)) = .lit (.int .i64 (x.2 : Int))
  size : size D = es.length
theorem mapIs_none : MapIs (.map []) [] := ⟨fun _ => rfl, (fun _ h => by cases h), rfl⟩
theorem mapIs_put {D : DataW Unit} {es : List (Int × Nat)} (hT : Tidy D) (hM : MapIs D es) {i : Int} (hi : ∀ x ∈ es, x.1 ≠ i) (b : Nat) : MapIs (D.put (kz i) (.lit (.int .i64 (b : Int)))) (es ++ [(i, b)]) := by
  have hno : Maps.has D (kz i) = false := by
    rw [hM.has, List.any_eq_false]
    exact fun x hx => by simpa using hi x hx
  refine ⟨fun j => ?_, fun x hx => ?_, ?_⟩
  · by_cases e : j = i
    · subst e
      rw [has_put_same hT.isMap (kz_key j), List.any_append]
      simp
    · rw [has_put_other (kz_ne e), hM.has, List.any_append]
      simp [Ne.symm e]
  · rcases List.mem_append.1 hx with hx | hx
    · rw [atKey_put_other (kz_ne (hi x hx))]
      exact hM.at_ x hx
    · obtain rfl : x = (i, b) := by simpa using hx
      exact atKey_put_same hT.isMap (kz_key i) _ _
  · rw [size_put hT, hno, hM.size]
    simp
theorem mapIs_del {D : DataW Unit} {ls cs : List (Int × Nat)} {i : Int} {b : Nat} (hT : Tidy D) (hM : MapIs D (ls ++ (i, b) :: cs)) (hi : ∀ x ∈ ls ++ cs, x.1 ≠ i) : MapIs (D.del (kz i)) (ls ++ cs) := by
  have hyes : Maps.has D (kz i) = true := by rw [hM.has]; simp
  refine ⟨fun j => ?_, fun x hx => ?_, ?_⟩
  · by_cases e : j = i
    · subst e
      rw [has_del_same]
      symm
      rw [List.any_eq_false]
      exact fun x hx => by simpa using hi x hx
    · rw [has_del_other (kz_ne e), hM.has]
      have e9 : (i == j) = false := by simpa using Ne.symm e
      simp [e9]
  · rw [atKey_del_other (kz_ne (hi x hx))]
    refine hM.at_ x ?_
    rcases List.mem_append.1 hx with hx | hx
    · exact List.mem_append_left _ hx
    · exact List.mem_append_right _ (List.mem_cons_of_mem _ hx)
  · have := size_del (k := kz i) hT
    rw [hyes, hM.size] at this
    simp at this ⊢
    omega
theorem keyedInt : Keyed Try.prog 3 := int_keyed Try.underlying3
theorem zeroPtr (w : World) : (zeroValue 47).run Try.prog w = .ok (.pointer none) w := by kernel_rfl
/-- block m is the map of these numbers and blocks -/
def MapN (m : Nat) (es : List (Int × Nat)) (w : World) : Prop := ∃ D : DataW Unit, w.ownsMap Try.prog 3 ptrR m es.length D ∧ MapIs D es
theorem tighten {P : Program} {k : TypeId} {R : Value → Option (DataW Unit × List MemPlace)} {w : World} {b n : Nat} {D : DataW Unit} (h : w.ownsMap P k R b n D) : w.ownsMap P k R b (size D) D := by
  obtain ⟨es, clock, h1, h2, h3, rfl⟩ := h
  exact ⟨es, clock, h1, h2, by simp [size, length_sorted], rfl⟩
theorem MapN.lt {m : Nat} {es : List (Int × Nat)} {w : World} (h : MapN m es w) : m < w.heap.size := by
  obtain ⟨D, h, -⟩ := h
  exact h.lt
theorem MapN.of_block {m : Nat} {es : List (Int × Nat)} {w w' : World} (h : MapN m es w) (hb : w'.heap[m]? = w.heap[m]?) : MapN m es w' := by
  obtain ⟨D, ⟨e9, clock, h1, h2⟩, hM⟩ := h
  exact ⟨D, ⟨e9, clock, hb.trans h1, h2⟩, hM⟩
theorem MapN.notCells {m : Nat} {es : List (Int × Nat)} {w : World} (h : MapN m es w) (cs : Array Value) (T : TypeId) (fr : Nat × Nat) : w.heap[m]? ≠ some (.cells cs T fr) := by
  obtain ⟨D, ⟨e9, clock, h1, -⟩, -⟩ := h
  rw [h1]
  intro e
  cases e
theorem MapN.made (w : World) : MapN w.heap.size [] (w.alloc (.map #[] 0)) := ⟨.map [], World.ownsMap_made _ _ _ _, mapIs_none⟩
/-- what a look-up finds -/
def FindsN (es : List (Int × Nat)) (i : Int) (v : Value) (ok : Bool) : Prop := (ok = false ∧ (∀ x ∈ es, x.1 ≠ i)) ∨ ∃ b : Nat, ok = true ∧ v = .pointer (some ⟨b, 0, none⟩) ∧ (i, b) ∈ es
set_option maxRecDepth 100000 in
theorem MapN.look {m : Nat} {es : List (Int × Nat)} {w : World} (h : MapN m es w) {i : Int} (hi : -9223372036854775808 ≤ i ∧ i ≤ 9223372036854775807) :
    ∃ v ok, (Instr.lookup 46 (.map (some m)) (.int .i64 i) true).run Try.prog w = .ok (.tuple #[v, .bool ok]) w ∧ FindsN es i v ok := by
  obtain ⟨D, hown, hM⟩ := h
  obtain ⟨v, ps, hrun, hv⟩ := hown.look_ok (t := 46) (e := 47) keyedInt Try.underlying46 (zeroPtr w) (zd := .lit (.bool false)) (zp := []) rfl (key := .int .i64 i) (kl := kz i) (keyOf_int_mk Try.underlying3 (kz_wf hi))
  refine ⟨v, _, hrun, ?_⟩
  cases hh : Maps.has D (kz i) with
  | false =>
    refine .inl ⟨rfl, fun x hx e => ?_⟩
    rw [hM.has, List.any_eq_false] at hh
    exact hh x hx (by simpa using e)
  | true =>
    rw [hM.has, List.any_eq_true] at hh
    obtain ⟨x, hx, he⟩ := hh
    obtain rfl : x.1 = i := by simpa using he
    rw [hM.at_ x hx] at hv
    refine .inr ⟨x.2, rfl, ?_, hx⟩
    rcases ptrR_inv hv with ⟨-, e⟩ | ⟨b, e1, e2⟩
    · exact absurd (congrArg Prod.fst e) (by simp)
    · have := congrArg Prod.fst e2
      injection this with this
      injection this with _ this
      rw [e1, show b = x.2 by omega]
theorem MapN.len {m : Nat} {es : List (Int × Nat)} {w : World} (h : MapN m es w) (ty : TypeId) : (Builtin.len_ #[46] ty #[.map (some m)]).run Try.prog w = .ok (.int .i64 (es.length : Int)) w := by
  obtain ⟨D, hown, hM⟩ := h
  rw [hown.len Try.underlying46, hM.size]
theorem MapN.put {m : Nat} {es : List (Int × Nat)} {w : World} (h : MapN m es w) {i : Int} (hi : -9223372036854775808 ≤ i ∧ i ≤ 9223372036854775807) (hn : ∀ x ∈ es, x.1 ≠ i) (hl : es.length ≤ 1000000) (b : Nat) :
    ∃ w', (Instr.mapUpdate 46 (.map (some m)) (.int .i64 i) (.pointer (some ⟨b, 0, none⟩))).run Try.prog w = .ok () w' ∧ MapN m (es ++ [(i, b)]) w' ∧ w.grownBy w' (some m) := by
  obtain ⟨D, hown, hM⟩ := h
  obtain ⟨w', hrun, hown', hg⟩ := hown.update (t := 46) (e := 47) keyedInt Try.underlying46 (by unfold maxLen; omega) (key := .int .i64 i) (val := .pointer (some ⟨b, 0, none⟩)) (kl := kz i) (d := .lit (.int .i64 (b : Int))) (ps := []) (keyOf_int_mk Try.underlying3 (kz_wf hi)) rfl
  exact ⟨w', hrun, ⟨_, by simpa using hown', mapIs_put (hown.tidy keyedInt) hM hn b⟩, hg⟩
theorem MapN.del {m : Nat} {ls cs : List (Int × Nat)} {i : Int} {b : Nat} {w : World} (h : MapN m (ls ++ (i, b) :: cs) w) (hi : -9223372036854775808 ≤ i ∧ i ≤ 9223372036854775807) (hn : ∀ x ∈ ls ++ cs, x.1 ≠ i) (ty : TypeId) :
    ∃ w', (Builtin.delete_ #[46, 3] ty #[.map (some m), .int .i64 i]).run Try.prog w = .ok (.tuple #[]) w' ∧ MapN m (ls ++ cs) w' ∧ w.grownBy w' (some m) := by
  obtain ⟨D, hown, hM⟩ := h
  obtain ⟨w', hrun, hown', hg⟩ := hown.drop (t := 46) (e := 47) keyedInt Try.underlying46 (key := .int .i64 i) (kl := kz i) (keyOf_int_mk Try.underlying3 (kz_wf hi)) ty
  have hM' := mapIs_del (hown.tidy keyedInt) hM hn
  refine ⟨w', hrun, ⟨_, ?_, hM'⟩, hg.grown⟩
  have := tighten hown'
  rwa [hM'.size] at this
end Go.Proofs.Ytgagkmlkoeceiaa.C
