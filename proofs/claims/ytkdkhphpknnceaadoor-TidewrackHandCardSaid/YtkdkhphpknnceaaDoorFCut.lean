/- The contract of flow.Cut. -/
import Derived.Test.YtkdkhphpknnceaaDoorFCnt
import Derived.Test.YtkdkhphpknnceaaDoorIRelIn
namespace Go.Proofs.YtkdkhphpknnceaaDoor.F
open Go.RowKit Go.Shelf H
open W (OwnR RunesIn Rn Tab blkOf blkOf_sub blkOf_some KeepL keepL_t keepL_b fitS fitS_le fit_any)

attribute [local go_sem] Oper.semAt_some

/-- a line's row, as it lies in a block of rows -/
structure Sv where
  a : Option Addr
  n : Nat
  c : Nat
def sV (u : Sv) : Value := .slice u.a u.n u.c
def flatS (l : List Sv) : List Value := l.map sV
theorem flatS_append (a b : List Sv) : flatS (a ++ b) = flatS a ++ flatS b := List.map_append ..
theorem flatS_one (l : List Sv) : ∀ u ∈ flatS l, u.oneCell' = true := by
  intro u hu
  obtain ⟨c, _, rfl⟩ := List.mem_map.1 hu
  rfl
/-- rows of our own -/
def OwnS (T : TypeId) (base : Nat) (v : Value) (us : List Sv) (w : World) : Prop := w.ownsRow base T 1 v us.length (flatS us)
/-- each of them of its own glyphs -/
def SvsQ (rk : IntKind) (G : TypeId) (base : Nat) (us : List Sv) (L : List (List (Int × Int))) (w : World) : Prop := us.length = L.length ∧ ∀ (i : Nat) (u : Sv) (l : List (Int × Int)), us[i]? = some u → L[i]? = some l → OwnQ rk G base (sV u) l w
theorem SvsQ.moved {rk : IntKind} {G : TypeId} {base : Nat} {us : List Sv} {L : List (List (Int × Int))} {w w' : World} (h : SvsQ rk G base us L w) (hm : ∀ (q : Nat) (cs : Array Value), w.heap[q]? = some (Obj.cells cs G (0, 0)) → w'.heap[q]? = some (Obj.cells cs G (0, 0))) : SvsQ rk G base us L w' :=
  ⟨h.1, fun i u l h1 h2 => (h.2 i u l h1 h2).moved (fun q hq => by
    obtain ⟨-, -, cs, h3⟩ := (h.2 i u l h1 h2).own q hq
    rw [h3, hm q cs h3])⟩
theorem SvsQ.snoc {rk : IntKind} {G : TypeId} {base : Nat} {us : List Sv} {L : List (List (Int × Int))} {u : Sv} {l : List (Int × Int)} {w : World} (h : SvsQ rk G base us L w) (hu : OwnQ rk G base (sV u) l w) : SvsQ rk G base (us ++ [u]) (L ++ [l]) w := by
  refine ⟨by rw [List.length_append, List.length_append, h.1]; rfl, fun i v q hv hq => ?_⟩
  rcases Nat.lt_or_ge i us.length with hi | hi
  · rw [List.getElem?_append_left hi] at hv
    rw [List.getElem?_append_left (by rw [← h.1]; exact hi)] at hq
    exact h.2 i v q hv hq
  · rw [List.getElem?_append_right hi] at hv
    rw [List.getElem?_append_right (by rw [← h.1]; exact hi), ← h.1] at hq
    match i - us.length, hv, hq with
    | 0, hv, hq =>
      obtain rfl : u = v := by simpa using hv
      obtain rfl : l = q := by simpa using hq
      exact hu
theorem rowsInfo : (Tryd.prog.info? 31).map (fun i => (i.zero, i.size, i.bytes)) = some (some (.slice none 0 0), 1, 24) := by kernel_rfl
theorem run_append_sv (base : Nat) (v : Value) (us : List Sv) (u : Sv) (p : Nat) (w : World) (hown : OwnS 31 base v us w) (hp : w.cell? ⟨p, 0, none⟩ = some (sV u)) (h1 : (us.length : Int) ≤ 1000000) (hbase : base ≤ w.heap.size) :
    ∃ v' w', (Builtin.append_ #[22, 22] 22 #[v, .slice (some ⟨p, 0, none⟩) 1 1]).run Tryd.prog w = .ok v' w' ∧ OwnS 31 base v' (us ++ [u]) w' ∧ w.grownBy w' v.ownBlock := by
  obtain ⟨i0, hi, hz0, hz1, hz2⟩ := info_parts rowsInfo
  have hmul : (us.length + 1) * 24 ≤ 140737488355328 := by omega
  have hnews : ∀ j x, (flatS [u])[j]? = some x → w.cell? ((⟨p, 0, none⟩ : Addr).add j) = some x := fun j x hj => by
    have hadd : ((⟨p, 0, none⟩ : Addr).add j) = ⟨p, 0 + j, none⟩ := by unfold Addr.add; split <;> simp_all
    match j, hj with
    | 0, hj => rw [hadd, hp]; simpa [flatS] using hj
    | n + 1, hj => simp [flatS] at hj
  obtain ⟨v', w', hr, g⟩ := U.append_grew (P := Tryd.prog) w 22 22 31 i0 _ 1 24 Tryd.underlying22 hi hz0 hz1 hz2 rfl (by decide) base v us.length (flatS us) hown ⟨p, 0, none⟩ 1 1 (flatS [u]) rfl hnews (flatS_one [u]) (by unfold maxLen; omega) hmul hbase
  refine ⟨v', w', hr, ?_, g.grown⟩
  unfold OwnS
  rw [List.length_append, flatS_append]
  exact g.own
/-- what Cut leaves -/
def CutPost (L : List (List (Int × Int))) (w : World) (e : Ending) (w' : World) : Prop := ∃ v us, e = .returned v ∧ OwnS 31 w.heap.size v us w' ∧ SvsQ .i32 44 w.heap.size us L w' ∧ Below w.heap.size w w'
/-- between two rounds -/
structure RowsI (b0 base : Nat) (w0 : World) (L : List (List (Int × Int))) (V : World) : Prop where
  ex : ∃ v us, Boxed V b0 22 v ∧ OwnS 31 base v us V ∧ SvsQ .i32 44 base us L V
  b : Below w0.heap.size w0 V
  sz : base ≤ V.heap.size
theorem ownsRow_grown {T : TypeId} {size base n : Nat} {v : Value} {xs : List Value} {V V' : World} {row : Option Nat} (h : V.ownsRow base T size v n xs) (hg : V.grownBy V' row) (hr : ∀ r, row = some r → ∃ o : Obj, V.heap[r]? = some o ∧ o.isCells = false) : V'.ownsRow base T size v n xs := by
  refine h.kept hg ?_
  cases hv : v.ownBlock with
  | none => exact .inl rfl
  | some q =>
    right
    intro e
    obtain ⟨o, ho, hc⟩ := hr q e.symm
    obtain ⟨cs, h2, -, -⟩ := U.own_type h hv
    rw [h2] at ho
    cases ho
    cases hc
theorem boxed_grown {V V' : World} {B : Nat} {t : TypeId} {v : Value} {row : Option Nat} (h : Boxed V B t v) (hg : V.grownBy V' row) (hr : ∀ r, row = some r → ∃ o : Obj, V.heap[r]? = some o ∧ o.isCells = false) : Boxed V' B t v := h.kept hg (fun e => by
  obtain ⟨o, ho, hc⟩ := hr B e.symm
  rw [show V.heap[B]? = _ from h] at ho; cases ho; cases hc)
theorem RowsI.grown {b0 base : Nat} {w0 : World} {L : List (List (Int × Int))} {V V' : World} {row : Option Nat} (h : RowsI b0 base w0 L V) (hg : V.grownBy V' row) (hr : ∀ r, row = some r → w0.heap.size ≤ r ∧ ∃ o : Obj, V.heap[r]? = some o ∧ o.isCells = false) : RowsI b0 base w0 L V' := by
  obtain ⟨⟨v, us, h1, h2, h3⟩, h4, h5⟩ := h
  refine ⟨⟨v, us, boxed_grown h1 hg (fun r e => (hr r e).2), ownsRow_grown h2 hg (fun r e => (hr r e).2), h3.moved (fun q cs hq => ?_)⟩, h4.grown hg h4.size (fun r e => (hr r e).1), Nat.le_trans h5 hg.size⟩
  refine (hg.block q (Array.getElem?_eq_some_iff.1 hq).1 (fun e => ?_)).trans hq
  obtain ⟨o, ho, hc⟩ := (hr q e.symm).2
  rw [hq] at ho
  cases ho
  cases hc
theorem mid_glu {rk : IntKind} {a : Option Addr} {n c : Nat} {l : List (Int × Int)} {w : World} (h : PairsIn rk a n c l w) (J1 J2 : Nat) (h1 : J1 ≤ J2) (h2 : J2 ≤ n) :
    PairsIn rk (if c = J1 then a else Option.map (fun x => x.add (J1 * 2)) a) (J2 - J1) (c - J1) ((l.drop J1).take (J2 - J1)) w := by
  have hf := h.fit
  have ht := h.top
  have hl := h.len
  refine ⟨by rw [List.length_take, List.length_drop]; omega, by omega, by omega, ?_⟩
  by_cases h0 : J1 = J2
  · left; rw [h0, Nat.sub_self, List.take_zero]
  · obtain ⟨b, off, rfl, hb, hi⟩ := h.at_.resolve_left (by rintro rfl; simp at hl; omega)
    have hadd : (⟨b, off, none⟩ : Addr).add (J1 * 2) = ⟨b, off + J1 * 2, none⟩ := by unfold Addr.add; split <;> simp_all
    refine .inr ⟨b, off + J1 * 2, by rw [if_neg (by omega), Option.map_some, hadd], hb, fun i u hu => ?_⟩
    rw [List.getElem?_take] at hu
    split at hu
    · rw [List.getElem?_drop] at hu
      have := hi _ u hu
      rw [Nat.add_mul, ← Nat.add_assoc] at this
      exact this
    · cases hu
theorem sv_of {rk : IntKind} {T : TypeId} {base : Nat} {v : Value} {l : List (Int × Int)} {w : World} (h : OwnQ rk T base v l w) : ∃ u : Sv, v = sV u ∧ u.n = l.length := by
  obtain ⟨a, c, e, -⟩ := h.shape
  exact ⟨⟨a, l.length, c⟩, e, rfl⟩
theorem flag_set {l : Array Bool} {i : Nat} (j : Nat) (hi : i < l.size) : (l.setIfInBounds i true).getD j false = if i = j then true else l.getD j false := by
  rw [Array.getD_eq_getD_getElem?, Array.getD_eq_getD_getElem?, Array.getElem?_setIfInBounds]
  by_cases h : i = j
  · subst h; simp [hi]
  · simp [h]
/-- what a round has in hand -/
structure RowEnv where
  b0 : Nat
  bl : Nat
  base : Nat
  w0 : World
  V : World
  v : Value
  us : List Sv
  L : List (List (Int × Int))
  row : List (Int × Int)
  a : Option Addr
  len : Nat
  cap : Nat
  sl : Option Addr
  J1 : Nat
  J2 : Nat
  lk : List Nat
structure RowEnv.Good (E : RowEnv) : Prop where
  hbc : Boxed E.V E.b0 22 E.v
  hbl : Boxed E.V E.bl 31 (.slice E.a E.len E.cap)
  hus : OwnS 31 E.base E.v E.us E.V
  hsv : SvsQ .i32 44 E.base E.us E.L E.V
  hb : Below E.w0.heap.size E.w0 E.V
  hsz : E.base ≤ E.V.heap.size
  h1 : E.b0 < E.base
  h2 : E.bl < E.base
  h3 : E.bl ≠ E.b0
  h4 : E.w0.heap.size ≤ E.b0
  hlr : E.us.length ≤ 200000
  hlk : ∀ b ∈ E.lk, b < E.base ∧ b ≠ E.b0
  hmid : PairsIn .i32 E.sl (E.J2 - E.J1) (E.cap - E.J1) E.row E.V
  hnil : E.sl = none → E.cap - E.J1 = 0
  hfew : E.J2 - E.J1 ≤ 1000000
/-- behind the round -/
def RowEnv.Fin (E : RowEnv) (W : World) : Prop := KeepsOthers E.V W ∧ KeepL E.lk E.V W ∧ RowsI E.b0 E.base E.w0 (E.L ++ [E.row]) W ∧ Boxed W E.bl 31 (.slice E.a E.len E.cap)
/-- ahead of the store -/
def RowEnv.Pre (E : RowEnv) (W : World) : Prop := Boxed W E.b0 22 E.v ∧ Boxed W E.bl 31 (.slice E.a E.len E.cap) ∧ KeepsOthers E.V W ∧ Below E.base E.V W ∧ E.V.heap.size ≤ W.heap.size
def RowEnv.Mid (E : RowEnv) (u : Value) (W : World) : Prop := ∃ nu, OwnS 31 E.base u (E.us ++ [nu]) W ∧ SvsQ .i32 44 E.base (E.us ++ [nu]) (E.L ++ [E.row]) W
structure RowEnv.C (E : RowEnv) (l : Array Bool) (W : World) : Prop where
  fin : l.getD 8 false = true → E.Fin W
  pre : l.getD 8 false = false → E.Pre W
  new : l.getD 7 false = false → Below E.V.heap.size E.V W
  o87 : l.getD 8 false = true → l.getD 7 false = true
  o76 : l.getD 7 false = true → l.getD 6 false = true
  o70 : l.getD 7 false = true → l.getD 0 false = true
  o65 : l.getD 6 false = true → l.getD 5 false = true
theorem RowEnv.C.not87 {E : RowEnv} {l : Array Bool} {W : World} (h : E.C l W) (hu : l.getD 7 false = false) : l.getD 8 false = false := by
  cases h8 : l.getD 8 false with
  | false => rfl
  | true => rw [h.o87 h8] at hu; cases hu
theorem RowEnv.C.not76 {E : RowEnv} {l : Array Bool} {W : World} (h : E.C l W) (hu : l.getD 6 false = false) : l.getD 7 false = false := by
  cases h8 : l.getD 7 false with
  | false => rfl
  | true => rw [h.o76 h8] at hu; cases hu
theorem RowEnv.C.not75 {E : RowEnv} {l : Array Bool} {W : World} (h : E.C l W) (hu : l.getD 5 false = false) : l.getD 7 false = false := by
  refine h.not76 ?_
  cases h8 : l.getD 6 false with
  | false => rfl
  | true => rw [h.o65 h8] at hu; cases hu
theorem RowEnv.C.not80 {E : RowEnv} {l : Array Bool} {W : World} (h : E.C l W) (hu : l.getD 0 false = false) : l.getD 8 false = false := by
  refine h.not87 ?_
  cases h8 : l.getD 7 false with
  | false => rfl
  | true => rw [h.o70 h8] at hu; cases hu
theorem RowEnv.C.line {E : RowEnv} {l : Array Bool} {W : World} (h : E.C l W) : Boxed W E.bl 31 (.slice E.a E.len E.cap) := by
  cases h8 : l.getD 8 false with
  | false => exact (h.pre h8).2.1
  | true => exact (h.fin h8).2.2.2
theorem RowEnv.C.same {E : RowEnv} {l : Array Bool} {W : World} (h : E.C l W) (i : Nat) (h1 : i < 5) (_h2 : i < 9) (hu : l.getD i false = false) (hs : l.size = 9) : E.C (l.setIfInBounds i true) W := by
  have f : ∀ j, i ≠ j → (l.setIfInBounds i true).getD j false = l.getD j false := fun j hj => by rw [flag_set j (by omega), if_neg hj]
  refine ⟨fun h8 => h.fin (by rwa [f 8 (by omega)] at h8), fun h8 => h.pre (by rwa [f 8 (by omega)] at h8), fun h7 => h.new (by rwa [f 7 (by omega)] at h7), fun h8 => ?_, fun h7 => ?_, fun h7 => ?_, fun h6 => ?_⟩
  · rw [f 8 (by omega)] at h8; rw [f 7 (by omega)]; exact h.o87 h8
  · rw [f 7 (by omega)] at h7; rw [f 6 (by omega)]; exact h.o76 h7
  · rw [f 7 (by omega)] at h7
    by_cases h0 : i = 0
    · subst h0; rw [flag_set 0 (by omega), if_pos rfl]
    · rw [f 0 h0]; exact h.o70 h7
  · rw [f 6 (by omega)] at h6; rw [f 5 (by omega)]; exact h.o65 h6
theorem RowEnv.Pre.below {E : RowEnv} {W W' : World} (h : E.Pre W) (hz : E.base ≤ E.V.heap.size) (hb : Below W.heap.size W W') : E.Pre W' := by
  obtain ⟨p1, p2, p3, p4, p5⟩ := h
  exact ⟨(hb.block _ p1.lt).trans p1, (hb.block _ p2.lt).trans p2, ⟨Nat.le_trans p5 hb.size, fun k o hk hc => (hb.block k (Array.getElem?_eq_some_iff.1 (p3.same k o hk hc)).1).trans (p3.same k o hk hc)⟩, p4.trans (hb.mono (Nat.le_trans hz p5)), Nat.le_trans p5 hb.size⟩
theorem RowEnv.C.grew {E : RowEnv} (hz : E.base ≤ E.V.heap.size) {l : Array Bool} {W W' : World} (h : E.C l W) (hu : l.getD 5 false = false) (hs : l.size = 9) (hb : Below W.heap.size W W') : E.C (l.setIfInBounds 5 true) W' := by
  have f : ∀ j, 5 ≠ j → (l.setIfInBounds 5 true).getD j false = l.getD j false := fun j hj => by rw [flag_set j (by omega), if_neg hj]
  have h7 := h.not75 hu
  have h8 := h.not87 h7
  have h6 : l.getD 6 false = false := by
    cases h8 : l.getD 6 false with
    | false => rfl
    | true => rw [h.o65 h8] at hu; cases hu
  refine ⟨fun k8 => ?_, fun _ => (h.pre h8).below hz hb, fun _ => (h.new h7).trans (hb.mono (h.new h7).size), fun k => ?_, fun k => ?_, fun k => ?_, fun k => ?_⟩
  · rw [f 8 (by omega), h8] at k8; cases k8
  · rw [f 8 (by omega), h8] at k; cases k
  · rw [f 7 (by omega), h7] at k; cases k
  · rw [f 7 (by omega), h7] at k; cases k
  · rw [f 6 (by omega), h6] at k; cases k
theorem RowEnv.C.grew6 {E : RowEnv} (hz : E.base ≤ E.V.heap.size) {l : Array Bool} {W W' : World} (h : E.C l W) (hu : l.getD 6 false = false) (hs : l.size = 9) (h5 : l.getD 5 false = true) (hb : Below W.heap.size W W') : E.C (l.setIfInBounds 6 true) W' := by
  have f : ∀ j, 6 ≠ j → (l.setIfInBounds 6 true).getD j false = l.getD j false := fun j hj => by rw [flag_set j (by omega), if_neg hj]
  have h7 := h.not76 hu
  have h8 := h.not87 h7
  refine ⟨fun k8 => ?_, fun _ => (h.pre h8).below hz hb, fun _ => (h.new h7).trans (hb.mono (h.new h7).size), fun k => ?_, fun k => ?_, fun k => ?_, fun k => ?_⟩
  · rw [f 8 (by omega), h8] at k8; cases k8
  · rw [f 8 (by omega), h8] at k; cases k
  · rw [f 7 (by omega), h7] at k; cases k
  · rw [f 7 (by omega), h7] at k; cases k
  · rw [f 5 (by omega)]; exact h5
theorem RowEnv.C.app {E : RowEnv} {l : Array Bool} {W W' : World} (h : E.C l W) (hu : l.getD 7 false = false) (hs : l.size = 9) (h6 : l.getD 6 false = true) (h0 : l.getD 0 false = true) (hp : E.Pre W') : E.C (l.setIfInBounds 7 true) W' := by
  have f : ∀ j, 7 ≠ j → (l.setIfInBounds 7 true).getD j false = l.getD j false := fun j hj => by rw [flag_set j (by omega), if_neg hj]
  have f7 : (l.setIfInBounds 7 true).getD 7 false = true := by rw [flag_set 7 (by omega), if_pos rfl]
  have h8 := h.not87 hu
  refine ⟨fun k => ?_, fun _ => hp, fun k => ?_, fun _ => f7, fun _ => by rw [f 6 (by omega)]; exact h6, fun _ => by rw [f 0 (by omega)]; exact h0, fun k => ?_⟩
  · rw [f 8 (by omega), h8] at k; cases k
  · rw [f7] at k; cases k
  · rw [f 6 (by omega)] at k; rw [f 5 (by omega)]; exact h.o65 k
theorem RowEnv.C.put {E : RowEnv} {l : Array Bool} {W W' : World} (h : E.C l W) (_hu : l.getD 8 false = false) (hs : l.size = 9) (h7 : l.getD 7 false = true) (hf : E.Fin W') : E.C (l.setIfInBounds 8 true) W' := by
  have f : ∀ j, 8 ≠ j → (l.setIfInBounds 8 true).getD j false = l.getD j false := fun j hj => by rw [flag_set j (by omega), if_neg hj]
  have f8 : (l.setIfInBounds 8 true).getD 8 false = true := by rw [flag_set 8 (by omega), if_pos rfl]
  refine ⟨fun _ => hf, fun k => ?_, fun k => ?_, fun _ => by rw [f 7 (by omega)]; exact h7, fun k => ?_, fun k => ?_, fun k => ?_⟩
  · rw [f8] at k; cases k
  · rw [f 7 (by omega), h7] at k; cases k
  · rw [f 7 (by omega)] at k; rw [f 6 (by omega)]; exact h.o76 k
  · rw [f 7 (by omega)] at k; rw [f 0 (by omega)]; exact h.o70 k
  · rw [f 6 (by omega)] at k; rw [f 5 (by omega)]; exact h.o65 k
def RowEnv.Ok (E : RowEnv) : Nat → Value → World → Prop
  | 0, u, _ => u = E.v
  | 1, u, _ => u = .slice E.a E.len E.cap
  | 2, u, _ => u = .int .i64 (E.J1 : Int)
  | 3, u, _ => u = .int .i64 (E.J2 : Int)
  | 4, u, _ => u = .slice E.sl (E.J2 - E.J1) (E.cap - E.J1)
  | 5, u, W => ∃ ua un uc, u = .slice ua un uc ∧ OwnQ .i32 44 E.V.heap.size (.slice ua un uc) E.row W
  | 6, u, W => ∃ ua un uc g, u = .slice (some ⟨g, 0, none⟩) 1 1 ∧ E.V.heap.size ≤ g ∧ W.heap[g]? = some (.cells #[.slice ua un uc] 31 (0, 0)) ∧ OwnQ .i32 44 E.V.heap.size (.slice ua un uc) E.row W
  | 7, u, W => E.Mid u W
  | _, _, _ => True
theorem own_row_q {base : Nat} {v : Value} {us : List Sv} {w : World} (h : OwnS 31 base v us w) : ∀ r, v.ownBlock = some r → base ≤ r ∧ r < w.heap.size ∧ ∃ cs, w.heap[r]? = some (Obj.cells cs 31 (0, 0)) := fun r e => by
  obtain ⟨cs, k1, k2, k3⟩ := U.own_type h e
  exact ⟨k2, k3, cs, k1⟩
theorem RowEnv.Ok.below {E : RowEnv} {W W' : World} (hb : Below W.heap.size W W') : ∀ j u, E.Ok j u W → E.Ok j u W'
  | 0, _, h => h
  | 1, _, h => h
  | 2, _, h => h
  | 3, _, h => h
  | 4, _, h => h
  | 5, _, ⟨ua, un, uc, h1, h2⟩ => ⟨ua, un, uc, h1, h2.below hb⟩
  | 6, _, ⟨ua, un, uc, g, h1, h2, h3, h4⟩ => ⟨ua, un, uc, g, h1, h2, (hb.block g (Array.getElem?_eq_some_iff.1 h3).1).trans h3, h4.below hb⟩
  | 7, _, ⟨nu, h1, h2⟩ => ⟨nu, U.belowAll h1 hb, h2.moved (fun q cs hq => (hb.block q (Array.getElem?_eq_some_iff.1 hq).1).trans hq)⟩
  | _ + 8, _, _ => trivial
/-- an append or a store: what is new stays -/
theorem RowEnv.Ok.turned {E : RowEnv} {W W' : World} {r : Option Nat} (hg : W.grownBy W' r) (hr : ∀ q, r = some q → q < E.V.heap.size) : ∀ j u, j ≠ 7 → E.Ok j u W → E.Ok j u W'
  | 0, _, _, h => h
  | 1, _, _, h => h
  | 2, _, _, h => h
  | 3, _, _, h => h
  | 4, _, _, h => h
  | 5, _, _, ⟨ua, un, uc, h1, h2⟩ => ⟨ua, un, uc, h1, h2.moved (fun q hq => hg.block q (h2.own q hq).2.1 (fun e => by have := hr q e.symm; have := (h2.own q hq).1; omega))⟩
  | 6, _, _, ⟨ua, un, uc, g, h1, h2, h3, h4⟩ => ⟨ua, un, uc, g, h1, h2, (hg.block g (Array.getElem?_eq_some_iff.1 h3).1 (fun e => by have := hr g e.symm; omega)).trans h3, h4.moved (fun q hq => hg.block q (h4.own q hq).2.1 (fun e => by have := hr q e.symm; have := (h4.own q hq).1; omega))⟩
  | 7, _, h7, _ => absurd rfl h7
  | _ + 8, _, _, _ => trivial
/-- the append -/
theorem RowEnv.Good.app {E : RowEnv} (G : E.Good) {W : World} {ua : Option Addr} {un uc g : Nat} (hp : E.Pre W) (hn : Below E.V.heap.size E.V W) (hg : W.heap[g]? = some (.cells #[.slice ua un uc] 31 (0, 0))) (hq : OwnQ .i32 44 E.V.heap.size (.slice ua un uc) E.row W) :
    ∃ v4 V4, (Builtin.append_ #[22, 22] 22 #[E.v, .slice (some ⟨g, 0, none⟩) 1 1]).run Tryd.prog W = .ok v4 V4 ∧ E.Pre V4 ∧ E.Mid v4 V4 ∧ ∀ j u, j ≠ 7 → E.Ok j u W → E.Ok j u V4 := by
  have hpc : W.cell? ⟨g, 0, none⟩ = some (sV ⟨ua, un, uc⟩) := by rw [cell_block hg]; rfl
  obtain ⟨v4, V4, hr, ho, hgr⟩ := run_append_sv E.base E.v E.us ⟨ua, un, uc⟩ g W (U.belowAll G.hus hn) hpc (by have := G.hlr; omega) (Nat.le_trans G.hsz hn.size)
  have hvr : ∀ r, E.v.ownBlock = some r → E.base ≤ r ∧ r < E.V.heap.size ∧ ∃ cs, W.heap[r]? = some (Obj.cells cs 31 (0, 0)) := fun r e => by
    obtain ⟨k1, k2, cs, k3⟩ := own_row_q G.hus r e
    exact ⟨k1, k2, cs, (hn.block r k2).trans k3⟩
  obtain ⟨p1, p2, p3, p4, p5⟩ := hp
  refine ⟨v4, V4, hr, ⟨p1.kept hgr (fun e => by have := (hvr E.b0 e.symm).1; have := G.h1; omega), p2.kept hgr (fun e => by have := (hvr E.bl e.symm).1; have := G.h2; omega), ⟨Nat.le_trans p5 hgr.size, fun k o hk hc => ?_⟩, p4.grown hgr (Nat.le_trans G.hsz p5) (fun r e => (hvr r e).1), Nat.le_trans p5 hgr.size⟩, ⟨⟨ua, un, uc⟩, ho, ?_⟩, RowEnv.Ok.turned hgr (fun q e => (hvr q e).2.1)⟩
  · have h5 := p3.same k o hk hc
    refine (hgr.block k (Array.getElem?_eq_some_iff.1 h5).1 (fun e => ?_)).trans h5
    obtain ⟨-, -, cs, h6⟩ := hvr k e.symm
    rw [h5] at h6
    cases h6
    cases hc
  · have hs : SvsQ .i32 44 E.base E.us E.L W := G.hsv.moved (fun q cs hq => (hn.block q (Array.getElem?_eq_some_iff.1 hq).1).trans hq)
    refine SvsQ.moved (SvsQ.snoc hs (hq.weaken G.hsz)) (fun q cs hq => (hgr.block q (Array.getElem?_eq_some_iff.1 hq).1 (fun e => ?_)).trans hq)
    obtain ⟨-, -, cs2, h6⟩ := hvr q e.symm
    rw [hq] at h6
    have := (Obj.cells.inj (Option.some.inj h6)).2.1
    exact absurd this (by decide)
/-- the store -/
theorem RowEnv.Mid.put {E : RowEnv} {W : World} {u : Value} (p1 : Boxed W E.b0 22 E.v) (hm : E.Mid u W) (x : Value) : E.Mid u (W.setCell ⟨E.b0, 0, none⟩ x) := by
  obtain ⟨nu, m1, m2⟩ := hm
  have hmv : ∀ (q : Nat) (cs : Array Value) (T : TypeId), T ≠ 22 → W.heap[q]? = some (Obj.cells cs T (0, 0)) → (W.setCell ⟨E.b0, 0, none⟩ x).heap[q]? = some (Obj.cells cs T (0, 0)) := fun q cs T hT hq => by
    refine (Below.heap_setCell _ _ _ q (fun e => ?_)).trans hq
    rw [show q = E.b0 from e, show W.heap[E.b0]? = _ from p1] at hq
    exact hT (Obj.cells.inj (Option.some.inj hq)).2.1.symm
  refine ⟨nu, ?_, m2.moved (w' := W.setCell ⟨E.b0, 0, none⟩ x) (fun q cs hq => hmv q cs _ (by decide) hq)⟩
  refine m1.kept (grownBy_setCell' W E.b0 x) ?_
  cases hv : u.ownBlock with
  | none => exact .inl rfl
  | some q =>
    refine .inr (fun e => ?_)
    obtain ⟨-, -, cs, k1⟩ := own_row_q m1 q hv
    rw [show q = E.b0 by injection e with e, show W.heap[E.b0]? = _ from p1] at k1
    have := (Obj.cells.inj (Option.some.inj k1)).2.1
    exact absurd this (by decide)
theorem RowEnv.Good.put {E : RowEnv} (G : E.Good) {W : World} {u : Value} (hp : E.Pre W) (hm : E.Mid u W) : E.Fin (W.setCell ⟨E.b0, 0, none⟩ u) := by
  obtain ⟨p1, p2, p3, p4, p5⟩ := hp
  obtain ⟨nu, ho, hs⟩ := hm.put p1 u
  have hz := (KeepsWalks.setCell W ⟨E.b0, 0, none⟩ u).size
  refine ⟨p3.trans (KeepsOthers.setCell _ _ _), keepL_t (KeepL.of_below p4 (fun b hb => (G.hlk b hb).1)) (KeepL.setCell _ (fun hm => (G.hlk E.b0 hm).2 rfl) _ _), ⟨⟨u, _, p1.set _, ho, hs⟩, ?_, Nat.le_trans (Nat.le_trans G.hsz p5) hz⟩, p2.other G.h3 _⟩
  refine (G.hb.trans ?_).setCell (p := ⟨E.b0, 0, none⟩) G.h4 _
  exact ⟨p4.os, p4.tape, p4.output, p4.size, fun k hk => p4.block k (by have := G.h4; have := G.h1; omega)⟩
set_option maxRecDepth 100000 in
set_option maxHeartbeats 8000000 in
theorem cut_in (n : Nat) (hn : 9 ≤ n) (a : Option Addr) (len cap : Nat) (l : List (Int × Int)) (W : Int) (w : World) (h : PairsIn .i32 a len cap l w) (hnil : a = none → cap = 0) (hT : Tab w) (hl : (len : Int) ≤ 100000) :
    CallsIn Fence.wide n Tryd.prog 5 #[.slice a len cap, .int .i64 W] w (CutPost (cutR (clampW W) l) w) := by
  have h1 : 1 ≤ n := by omega
  obtain ⟨P, hP⟩ : ∃ P, CutPost (cutR (clampW W) l) w = P := ⟨_, rfl⟩
  rw [hP]
  have HP := Lib.hid hP
  have hpos := hT.pos
  have HT := Lib.hid hT
  obtain ⟨i0, hi, hz0, hz1, hz2⟩ := info_parts rowsInfo
  obtain ⟨w1, hw1⟩ : ∃ w1, (w.alloc (.cells #[.slice a len cap] 31)).alloc (.cells #[.slice none 0 0] 22) = w1 := ⟨_, rfl⟩
  have b01 : Below w.heap.size w w1 := by rw [← hw1]; exact ((Below.refl _ _).alloc (Nat.le_refl _) _).alloc (by simp) _
  have hs1 : w1.heap.size = w.heap.size + 2 := by rw [← hw1]; simp
  have bL : Boxed w1 w.heap.size 31 (.slice a len cap) := by rw [← hw1]; exact (Boxed.new w 31 _).alloc _
  have bC : Boxed w1 (w.heap.size + 1) 22 (.slice none 0 0) := by
    have h := Boxed.new (w.alloc (.cells #[.slice a len cap] 31)) 22 (.slice none 0 0)
    rw [World.size_alloc, hw1] at h
    exact h
  have HR := Lib.hid (runes_any a len cap l w1 (h.belowAll b01) (by omega))
  have HLn := Lib.hid h.len
  have HG := Lib.hid h
  have HNil := Lib.hid hnil
  have HBL := Lib.hid bL
  have HBC := Lib.hid bC
  have HB01 := Lib.hid b01
  have HS1 := Lib.hid hs1
  have HW1 := Lib.hid hw1
  have cL := bL.cell
  have hfit := h.fit
  have htop := h.top
  clear hP hT h hnil bL bC b01 hs1 hw1
  refine callsIn_of_wp_marks Tryd.func5 rfl trivial ?_ rfl
  simp only [Tryd.ntmps5, List.size_toArray, List.length_cons, List.length_nil, Nat.reduceAdd, Nat.reduceSub, Array.replicate_succ, Array.replicate_zero, List.push_toArray, List.append_toArray, List.nil_append, List.cons_append]
  gi_wp2_with fail
  refine ⟨by first | trivial | omega, ?_⟩
  rw [HW1.out]
  refine (callsIn_wide.2 HR.out).mono ?_
  rintro e w2 ⟨v, rfl, hown, hb2⟩
  have hb02 : Below w.heap.size w w2 := HB01.out.trans (hb2.mono HB01.out.size)
  obtain ⟨ra, rc, rfl, hrn, hrc, hrt, hrs, hrb⟩ := own_rn hown (HT.out.belowAll hb02) (by rw [runesF_len, ← HLn.out]; omega)
  have hcu := cuts_any ra (runesF l).length rc (runesF l) W w2 hrn hrc hrt hrs
  obtain ⟨rl, hrl⟩ : ∃ rl, (runesF l).length = rl := ⟨_, rfl⟩
  rw [hrl] at hcu ⊢
  have HCu := Lib.hid hcu
  have HB02 := Lib.hid hb02
  have HBL2 : Hid (Boxed w2 w.heap.size 31 (.slice a len cap)) := Lib.hid ((hb2.block _ HBL.out.lt).trans HBL.out)
  have HBC2 : Hid (Boxed w2 (w.heap.size + 1) 22 (.slice none 0 0)) := Lib.hid ((hb2.block _ HBC.out.lt).trans HBC.out)
  have HRb := Lib.hid hrb
  have hs2 : w1.heap.size ≤ w2.heap.size := hb2.size
  have HS2 := Lib.hid hs2
  clear hown hb2 hb02 hrn hrc hrt hrs hrb hcu hs2 cL
  gi_wp2_with fail
  refine ⟨by first | trivial | omega, ?_⟩
  refine (callsIn_wide.2 HCu.out).mono ?_
  rintro e w3 ⟨rfl, hL3, hb3, hs3⟩
  obtain ⟨cs, hcs⟩ := cuts_all (clampW W) (runesF l)
  have hnl0 : w.heap.size ∉ lookF w2.heap.size ra (runesF l) := look_not hpos (by have := HS1.out; omega) HS2.out (fun b hb => HRb.out b hb)
  have hnl : w.heap.size + 1 ∉ lookF w2.heap.size ra (runesF l) := look_not (by omega) (by have := HS1.out; omega) HS2.out (fun b hb => HRb.out b hb)
  have hb03 : Below w.heap.size w w3 := HB02.out.trans (hb3.mono HB02.out.size)
  have hsz3 : w.heap.size + 2 ≤ w3.heap.size := by have := HS1.out; have := HS2.out; have := hb3.size; omega
  have hbl3 : Boxed w3 w.heap.size 31 (.slice a len cap) := (hb3.block _ HBL2.out.lt).trans HBL2.out
  have hbc3 : Boxed w3 (w.heap.size + 1) 22 (.slice none 0 0) := (hb3.block _ HBC2.out.lt).trans HBC2.out
  have hcl2 : cs.length ≤ 200000 := by
    have h1 := cuts_few (clampW_le W).1 l
    rw [← hcs, List.length_map] at h1
    have := HLn.out
    omega
  have HL3 := Lib.hid hL3
  have HCs := Lib.hid hcs
  have HBL3 := Lib.hid hbl3
  have HBC3 := Lib.hid hbc3
  have HB03 := Lib.hid hb03
  have HCl := Lib.hid hcl2
  clear hL3 hb3 hs3 hcs hb03 hbl3 hbc3 HCu hcl2
  gi_wp2_with fail
  refine wpIn_rangeFunc_ownF rfl h1 (gf := 30) (lb := #[.pointer (some ⟨w2.heap.size + 1, 0, none⟩), .pointer (some ⟨w2.heap.size, 0, none⟩)]) rfl trivial (enters_of Tryd.func30 (by kernel_rfl) rfl)
    (cut_stops (n - 1) (by omega) w2.heap.size ra rl rc (runesF l) (clampW W) (clampW_le W) cs HCs.out w3 HL3.out) (fun h1 h2 => keepL_t h1 h2) (keepL_b HL3.out.all) (Below.refl _ _) (fun _ => rfl)
    (fun pre V => RowsI (w.heap.size + 1) w3.heap.size w (pre.map fun (c : Ct (runesF l).length) => rowOfC l c.1) V ∧ Boxed V w.heap.size 31 (.slice a len cap))
    (fun _ _ _ => False)
    (fun s X Y row hs hg hr => ⟨hs.1.grown hg (fun r e => ⟨by have := (hr r e).1; omega, (hr r e).2⟩), boxed_grown hs.2 hg (fun r e => (hr r e).2)⟩)
    (fun _ _ _ _ _ hs _ _ => hs)
    ⟨⟨⟨_, [], HBC3.out, World.ownsRow_nil _ _ _ _, rfl, fun i u l h => by cases h⟩, HB03.out, Nat.le_refl _⟩, HBL3.out⟩
    (fun x => { tmps := #[.slice a len cap, .int .i64 W, .pointer (some ⟨w.heap.size, 0, none⟩), undef, .slice none 0 0, .pointer (some ⟨w.heap.size + 1, 0, none⟩), .int .i64 (x.1.1 : Int), .int .i64 (x.1.2 : Int), .slice a len cap, .slice ra rl rc, .int .i64 W, .func (.func 30) #[] #[.pointer (some ⟨w2.heap.size + 1, 0, none⟩), .pointer (some ⟨w2.heap.size, 0, none⟩)], .int .i64 (x.1.1 : Int), .int .i64 (x.1.2 : Int), undef, undef, undef, undef, undef, undef, undef, undef, undef], defers := [] }) ?assign ?body ?done ?stop
  case assign =>
    intro l x V K hK
    gi_wp2
    simpa [encC] using hK
  case body =>
    rintro l1 pre x V ⟨hI, hbl⟩ hltp
    obtain ⟨⟨v, us, hbc, hus, hsv⟩, hb, hsz⟩ := hI
    have hx := x.2
    obtain ⟨J1, hJ1⟩ : ∃ J, x.1.1 = J := ⟨_, rfl⟩
    obtain ⟨J2, hJ2⟩ : ∃ J, x.1.2 = J := ⟨_, rfl⟩
    rw [hJ1, hJ2] at hx ⊢
    have hJ2l : J2 ≤ len := by have h1 := hx.2; rw [runesF_len, ← HLn.out] at h1; exact h1
    have hJ12 := hx.1
    have hmid := mid_glu (HG.out.belowAll hb) J1 J2 hx.1 hJ2l
    have hnil2 : (if cap = J1 then a else Option.map (fun y => y.add (J1 * 2)) a) = none → cap - J1 = 0 := by
      intro e
      cases a with
      | none => have := HNil.out rfl; omega
      | some ad => split at e <;> cases e
    have hrow : rowOfC l x.1 = (l.drop J1).take (J2 - J1) := by unfold rowOfC; rw [hJ1, hJ2]
    obtain ⟨row, hrw⟩ : ∃ row, (l.drop J1).take (J2 - J1) = row := ⟨_, rfl⟩
    rw [hrw] at hmid hrow
    obtain ⟨sl, hsl⟩ : ∃ sl, (if cap = J1 then a else Option.map (fun y => y.add (J1 * 2)) a) = sl := ⟨_, rfl⟩
    rw [hsl] at hmid hnil2
    have hsub : J2 ≤ cap := by omega
    have k0 := hbc.cell
    have k1 := hbl.cell
    have hlr : us.length ≤ 200000 := by
      have h1 := hsv.1
      rw [List.length_map] at h1
      have := HCl.out
      omega
    have HBc := Lib.hid hbc
    have HBl := Lib.hid hbl
    have HUs := Lib.hid hus
    have HSv := Lib.hid hsv
    have HB := Lib.hid hb
    have HSz := Lib.hid hsz
    have HRow := Lib.hid hrow
    have HLr := Lib.hid hlr
    have HMid := Lib.hid hmid
    have HNil2 := Lib.hid hnil2
    have HSl := Lib.hid hsl
    clear hx hmid hnil2 hsl hrw hrow hbc hbl hus hsv hb hsz hlr hltp
    gi_wp2_with fail
    have mixed : Tryd.prog.follows .mixedOrders = true := by kernel_rfl
    obtain ⟨E, hE⟩ : ∃ E : RowEnv, E = { b0 := w.heap.size + 1, bl := w.heap.size, base := w3.heap.size, w0 := w, V := V, v := v, us := us, L := (pre.map fun (c : Ct (runesF l).length) => rowOfC l c.1), row := row, a := a, len := len, cap := cap, sl := sl, J1 := J1, J2 := J2, lk := lookF w2.heap.size ra (runesF l) } := ⟨_, rfl⟩
    have HG5 : Hid E.Good := Lib.hid (by
      subst hE
      exact ⟨HBc.out, HBl.out, HUs.out, HSv.out, HB.out, HSz.out, by show w.heap.size + 1 < w3.heap.size; omega, by show w.heap.size < w3.heap.size; omega, by show w.heap.size ≠ w.heap.size + 1; omega, Nat.le_add_right _ _, HLr.out, fun b hb => ⟨HL3.out.all b hb, fun e => by have e2 : b = w.heap.size + 1 := e; exact hnl (e2 ▸ hb)⟩, HMid.out, HNil2.out, by show J2 - J1 ≤ 1000000; omega⟩)
    have HGoal : Hid (∀ z W, E.Fin W → ownPostK (KeepL (lookF w2.heap.size ra (runesF l))) (fun pre V => RowsI (w.heap.size + 1) w3.heap.size w (pre.map fun (c : Ct (runesF l).length) => rowOfC l c.1) V ∧ Boxed V w.heap.size 31 (.slice a len cap)) (fun _ _ _ => False) (pre ++ [x]) V .normal z W) := Lib.hid (fun z W hf => by
      subst hE
      obtain ⟨f1, f2, f3, f4⟩ := hf
      refine ⟨f1, f2, ?_, f4⟩
      rw [List.map_append, List.map_cons, List.map_nil, HRow.out]
      exact f3)
    refine Go.Proofs.YtkdkhphpknnceaaDoor.I.wpIn_region_rel (by kernel_rfl) E.C E.Ok (by rfl) (by kernel_rfl) (by kernel_rfl) ?hop ?hdone ?h0
    case h0 => exact ⟨fun h => by simp at h, fun _ => by
      subst hE
      exact ⟨HBc.out, HBl.out, ⟨Nat.le_refl _, fun k o h _ => h⟩, (Below.refl _ _).drew, Nat.le_refl _⟩, fun _ => by subst hE; exact (Below.refl _ _).drew, (fun h => by simp at h), (fun h => by simp at h), (fun h => by simp at h), (fun h => by simp at h)⟩
    case hdone =>
      intro listed z1 v1 hC hall hag _
      exact HGoal.out z1 _ (hC.fin (hall 8 (by decide)))
    case hop =>
        refine ⟨?_, ?_, ?_, ?_, ?_, ?_, ?_, ?_, ?_, trivial⟩
        · intro listed z1 v1 hC hlsz hun hdl hag hdep
          refine .inl ⟨rfl, fun K hK => ?_⟩
          have d5 : z1.tmps.getD 5 undef = .pointer (some ⟨w.heap.size + 1, 0, none⟩) := hag.2.2 5 (by kernel_rfl)
          have e5 := d5
          rw [Array.getD_eq_getD_getElem?] at e5
          have hcell : v1.cell? ⟨w.heap.size + 1, 0, none⟩ = some v := by
            have h := (hC.pre (hC.not80 hun)).1.cell
            subst hE
            exact h
          have HC := Lib.hid hC
          clear hC hdep hag hdl
          go_simp
          exact hK _ _ (HC.out.same 0 (by omega) (by omega) hun hlsz) (fun _ _ _ _ h => h) (by subst hE; rfl)
        · intro listed z1 v1 hC hlsz hun hdl hag hdep
          refine .inl ⟨rfl, fun K hK => ?_⟩
          have d2 : z1.tmps.getD 2 undef = .pointer (some ⟨w.heap.size, 0, none⟩) := hag.2.2 2 (by kernel_rfl)
          have e2 := d2
          rw [Array.getD_eq_getD_getElem?] at e2
          have hcell : v1.cell? ⟨w.heap.size, 0, none⟩ = some (.slice a len cap) := by
            have h := hC.line.cell
            subst hE
            exact h
          have HC := Lib.hid hC
          clear hC hdep hag hdl
          go_simp
          exact hK _ _ (HC.out.same 1 (by omega) (by omega) hun hlsz) (fun _ _ _ _ h => h) (by subst hE; rfl)
        · intro listed z1 v1 hC hlsz hun hdl hag hdep
          refine .inl ⟨rfl, fun K hK => ?_⟩
          have d6 : z1.tmps.getD 6 undef = .int .i64 (J1 : Int) := hag.2.2 6 (by kernel_rfl)
          have e6 := d6
          rw [Array.getD_eq_getD_getElem?] at e6
          have HC := Lib.hid hC
          clear hC hdep hag hdl
          go_simp
          exact hK _ _ (HC.out.same 2 (by omega) (by omega) hun hlsz) (fun _ _ _ _ h => h) (by subst hE; rfl)
        · intro listed z1 v1 hC hlsz hun hdl hag hdep
          refine .inl ⟨rfl, fun K hK => ?_⟩
          have d7 : z1.tmps.getD 7 undef = .int .i64 (J2 : Int) := hag.2.2 7 (by kernel_rfl)
          have e7 := d7
          rw [Array.getD_eq_getD_getElem?] at e7
          have HC := Lib.hid hC
          clear hC hdep hag hdl
          go_simp
          exact hK _ _ (HC.out.same 3 (by omega) (by omega) hun hlsz) (fun _ _ _ _ h => h) (by subst hE; rfl)
        · intro listed z1 v1 hC hlsz hun hdl hag hdep
          refine .inl ⟨rfl, fun K hK => ?_⟩
          have d15 : z1.tmps.getD 15 undef = .slice a len cap := by
            have h := hdep { on := 1, ground := .data } (by simp) rfl _ _ rfl rfl
            subst hE
            exact h
          have e15 := d15
          rw [Array.getD_eq_getD_getElem?] at e15
          have d16 : z1.tmps.getD 16 undef = .int .i64 (J1 : Int) := by
            have h := hdep { on := 2, ground := .data } (by simp) rfl _ _ rfl rfl
            subst hE
            exact h
          have e16 := d16
          rw [Array.getD_eq_getD_getElem?] at e16
          have d17 : z1.tmps.getD 17 undef = .int .i64 (J2 : Int) := by
            have h := hdep { on := 3, ground := .data } (by simp) rfl _ _ rfl rfl
            subst hE
            exact h
          have e17 := d17
          rw [Array.getD_eq_getD_getElem?] at e17
          have HC := Lib.hid hC
          clear hC hdep hag hdl
          go_simp
          exact hK _ _ (HC.out.same 4 (by omega) (by omega) hun hlsz) (fun _ _ _ _ h => h) (by have h := HSl.out; subst hE; show Value.slice _ _ _ = Value.slice sl _ _; rw [h])
        · intro listed z1 v1 hC hlsz hun hdl hag hdep
          refine .inl ⟨rfl, fun K hK => ?_⟩
          have d18 : z1.tmps.getD 18 undef = .slice sl (J2 - J1) (cap - J1) := by
            have h := hdep { on := 4, ground := .data } (by simp) rfl _ _ rfl rfl
            subst hE
            exact h
          have e18 := d18
          rw [Array.getD_eq_getD_getElem?] at e18
          have hcc : Calls Tryd.prog 16 #[.slice sl (J2 - J1) (cap - J1)] v1 (CloPost row v1) := by
            have h1 := HG5.out.hmid.belowAll (hC.new (hC.not75 hun))
            have h2 := HG5.out.hnil
            have h3 := HG5.out.hfew
            subst hE
            exact clone_pairs _ _ _ _ v1 h1 h2 h3
          have HCC := Lib.hid hcc
          have HC := Lib.hid hC
          clear hC hdep hag hdl hcc
          go_simp
          refine ⟨trivial, fun _ => by omega, (CallsIn.inRound l1 (callsIn_wide.2 HCC.out)).mono ?_⟩
          rintro e V2 hq0
          have hq1 : CloPost row v1 e V2 := hq0
          obtain ⟨v2, rfl, hq, hb2⟩ := hq1
          obtain ⟨⟨ua, un, uc⟩, rfl, -⟩ := sv_of hq
          have hn1 := HC.out.new (HC.out.not75 hun)
          have hzz := hn1.size
          refine hK _ _ (HC.out.grew HG5.out.hsz hun hlsz hb2) (fun j u _ _ h => RowEnv.Ok.below hb2 j u h) ?_
          refine ⟨ua, un, uc, rfl, ?_⟩
          subst hE
          exact hq.weaken hzz
        · intro listed z1 v1 hC hlsz hun hdl hag hdep
          refine .inl ⟨rfl, fun K hK => ?_⟩
          obtain ⟨ua, un, uc, d19, hq⟩ := hdep { on := 5, ground := .data } (by simp) rfl _ _ rfl rfl
          have h5 : listed.getD 5 false = true := hdl { on := 5, ground := .data } (by simp) rfl
          have e19 := d19
          rw [Array.getD_eq_getD_getElem?] at e19
          have HC := Lib.hid hC
          have HQ := Lib.hid hq
          have hb2 : Below v1.heap.size v1 (v1.alloc (.cells #[.slice ua un uc] 31)) := (Below.refl _ _).alloc (Nat.le_refl _) _
          have HB2 := Lib.hid hb2
          have hn1 := (hC.new (hC.not76 hun)).size
          clear hC hdep hag hdl hq hb2
          go_simp
          refine hK _ _ (HC.out.grew6 HG5.out.hsz hun hlsz h5 HB2.out) (fun j u _ _ h => RowEnv.Ok.below HB2.out j u h) ?_
          exact ⟨ua, un, uc, v1.heap.size, rfl, hn1, World.alloc_heap_new v1 _, HQ.out.below HB2.out⟩
        · intro listed z1 v1 hC hlsz hun hdl hag hdep
          refine .inl ⟨rfl, fun K hK => ?_⟩
          obtain ⟨ua, un, uc, g, d20, hg0, hg, hq⟩ := hdep { on := 6, ground := .data } (by simp) rfl _ _ rfl rfl
          have d14 : z1.tmps.getD 14 undef = E.v := hdep { on := 0, ground := .data } (by simp) rfl _ _ rfl rfl
          have h6 : listed.getD 6 false = true := hdl { on := 6, ground := .data } (by simp) rfl
          have h0 : listed.getD 0 false = true := hdl { on := 0, ground := .data } (by simp) rfl
          obtain ⟨v4, V4, hr, hp4, hm4, hok⟩ := HG5.out.app (hC.pre (hC.not87 hun)) (hC.new hun) hg hq
          have hs : z1.eval (.tmp 14) = E.v := d14
          have hy : z1.eval (.tmp 20) = .slice (some ⟨g, 0, none⟩) 1 1 := d20
          unfold Oper.wpIn
          refine ⟨by simp [Oper.about, resolve, Target.leads, Sem.run_pure], ?_⟩
          rw [Oper.semAt_plain _ _ _ (by intro c hc'; cases hc')]
          simp [execOp, resolve, invoke, builtin, hs, hy, hr, Result.andThen]
          exact hK _ _ (hC.app hun hlsz h6 h0 hp4) (fun j u hj _ h => hok j u hj h) hm4
        · intro listed z1 v1 hC hlsz hun hdl hag hdep
          refine .inl ⟨rfl, fun K hK => ?_⟩
          have d5 : z1.tmps.getD 5 undef = .pointer (some ⟨w.heap.size + 1, 0, none⟩) := hag.2.2 5 (by kernel_rfl)
          have e5 := d5
          rw [Array.getD_eq_getD_getElem?] at e5
          have hm := hdep { on := 7, ground := .data } (by simp) rfl _ _ rfl rfl
          have h7 : listed.getD 7 false = true := hdl { on := 7, ground := .data } (by simp) rfl
          obtain ⟨u, d21⟩ : ∃ u, z1.tmps.getD 21 undef = u := ⟨_, rfl⟩
          have hm : E.Mid u v1 := by rw [← d21]; exact hm
          obtain ⟨y1, y2, y3, rfl⟩ : ∃ y1 y2 y3, u = .slice y1 y2 y3 := by
            obtain ⟨nu, m1, -⟩ := hm
            rcases m1.2 with ⟨e, _⟩ | ⟨g, cap, cur, e, _⟩
            · exact ⟨_, _, _, e⟩
            · exact ⟨_, _, _, e⟩
          obtain ⟨u, hu⟩ : ∃ u, u = Value.slice y1 y2 y3 := ⟨_, rfl⟩
          rw [← hu] at hm
          have e21 := d21
          rw [Array.getD_eq_getD_getElem?] at e21
          have hp := hC.pre hun
          have hb0 : E.b0 = w.heap.size + 1 := by subst hE; rfl
          have hcell := hp.1.cell
          have hfr := hp.1.frozen
          rw [hb0] at hcell hfr
          have hf := HG5.out.put hp hm
          have hm2 : ∀ x, E.Mid x v1 → E.Mid x (v1.setCell ⟨E.b0, 0, none⟩ u) := fun x h => h.put hp.1 u
          rw [hb0] at hf hm2
          have hg := grownBy_setCell' v1 (w.heap.size + 1) u
          have HFn := Lib.hid (hC.put hun hlsz h7 hf)
          have HMd := Lib.hid hm2
          have HTu : Hid (∀ j x, j ≠ 7 → E.Ok j x v1 → E.Ok j x (v1.setCell ⟨w.heap.size + 1, 0, none⟩ u)) := Lib.hid (RowEnv.Ok.turned hg (fun q e => by
            have h1 := HG5.out.h1
            have h2 := HG5.out.hsz
            injection e with e
            omega))
          have hu7 : z1.tmps.getD 21 undef = u := d21.trans hu.symm
          rw [hu] at HFn HMd HTu
          clear hC hdep hag hdl hm hp hf hm2 hg hu7 hu
          go_simp
          refine hK undef _ HFn.out (fun j x hj hl h => ?_) trivial
          by_cases h77 : j = 7
          · subst h77
            exact HMd.out x h
          · exact HTu.out j x h77 h
  case done =>
    rintro D ys V hD hS ⟨⟨⟨v, us, hbc, hus, hsv⟩, hb, hsz⟩, -⟩ hK
    subst hS
    have hc := hbc.cell
    have hg := grownBy_putObj' V D (.deferred none)
    have hr : ∀ r, some D = some r → ∃ o : Obj, V.heap[r]? = some o ∧ o.isCells = false := fun r e => by cases e; exact ⟨_, hK, rfl⟩
    have hmap : (ys.map fun (c : Ct (runesF l).length) => rowOfC l c.1) = cutR (clampW W) l := by
      rw [← cuts_rows (clampW_le W).1 l, ← HCs.out, List.map_map]
      rfl
    have HUs : Hid (OwnS 31 w.heap.size v us (V.putObj D (.deferred none))) := Lib.hid (U.weaken (ownsRow_grown hus hg hr) (by omega))
    have HSv : Hid (SvsQ .i32 44 w.heap.size us (cutR (clampW W) l) (V.putObj D (.deferred none))) := Lib.hid (by
      rw [← hmap]
      have h1 := hsv.moved (w' := V.putObj D (.deferred none)) (fun q cs hq => (World.putObj_heap_other (by rintro rfl; rw [hK] at hq; cases hq)).trans hq)
      exact ⟨h1.1, fun i u l h2 h3 => (h1.2 i u l h2 h3).weaken (by omega)⟩)
    have HB := Lib.hid hb
    have HK := Lib.hid hK
    have HD := Lib.hid hD
    clear hbc hus hsv hb hsz hK hD hg hr hmap
    gi_wp2
    refine ⟨by simp, .inl ⟨_, _, rfl, run_takeDeferred HK.out, ?_⟩⟩
    rw [← HP.out]
    exact ⟨_, results_tmp rfl _ _ _, v, us, rfl, HUs.out, HSv.out, HB.out.trans (belowK_b (w := w3) (by omega) V D _ _ HD.out HK.out rfl rfl)⟩
  case stop =>
    rintro D c pre V hD _ h
    exact h.elim
theorem cut_any (a : Option Addr) (len cap : Nat) (l : List (Int × Int)) (W : Int) (w : World) (h : PairsIn .i32 a len cap l w) (hnil : a = none → cap = 0) (hT : Tab w) (hl : (len : Int) ≤ 100000) :
    Calls Tryd.prog 5 #[.slice a len cap, .int .i64 W] w (CutPost (cutR (clampW W) l) w) :=
  (callsIn_wide (n := 9)).1 (cut_in 9 (Nat.le_refl _) a len cap l W w h hnil hT hl)
theorem OwnS.shape {T : TypeId} {base : Nat} {v : Value} {us : List Sv} {w : World} (h : OwnS T base v us w) : ∃ a c, v = .slice a us.length c ∧ us.length ≤ c ∧ (c : Int) ≤ 9223372036854775807 ∧ (a = none → c = 0) ∧ (us = [] ∨ ∃ g, a = some ⟨g, 0, none⟩ ∧ base ≤ g ∧ g < w.heap.size ∧ ∀ i u, us[i]? = some u → w.cell? ⟨g, i, none⟩ = some (.slice u.a u.n u.c)) := by
  rcases h.2 with ⟨rfl, h0⟩ | ⟨g, cap, cur, rfl, hbase, hg, hc, hm, hs, ht⟩
  · exact ⟨none, 0, by rw [h0], by omega, by decide, fun _ => rfl, .inl (List.length_eq_zero_iff.1 h0)⟩
  · have hlt := (Array.getElem?_eq_some_iff.1 hg).1
    refine ⟨some ⟨g, 0, none⟩, cap, rfl, hc, by unfold maxLen at hm; omega, (fun e => by cases e), .inr ⟨g, rfl, hbase, hlt, fun i u hi => ?_⟩⟩
    have hil : i < us.length := (List.getElem?_eq_some_iff.1 hi).1
    rw [World.ownsRow.cellAt h i (by omega)]
    unfold flatS
    rw [List.getElem?_map, hi]
    rfl
theorem OwnS.below {T : TypeId} {base : Nat} {v : Value} {us : List Sv} {w w' : World} (h : OwnS T base v us w) (hb : Below w.heap.size w w') : OwnS T base v us w' := U.belowAll h hb
theorem SvsQ.below {rk : IntKind} {G : TypeId} {base : Nat} {us : List Sv} {L : List (List (Int × Int))} {w w' : World} (h : SvsQ rk G base us L w) (hb : Below w.heap.size w w') : SvsQ rk G base us L w' := h.moved (fun q cs hq => (hb.block q (Array.getElem?_eq_some_iff.1 hq).1).trans hq)
theorem SvsQ.row {rk : IntKind} {G : TypeId} {base : Nat} {us : List Sv} {L : List (List (Int × Int))} {w : World} (h : SvsQ rk G base us L w) {i : Nat} {u : Sv} {l : List (Int × Int)} (h1 : us[i]? = some u) (h2 : L[i]? = some l) : PairsIn rk u.a u.n u.c l w ∧ u.n = l.length ∧ (u.a = none → u.c = 0) := by
  obtain ⟨a, c, e, hp, hn, -⟩ := (h.2 i u l h1 h2).shape
  unfold sV at e
  injection e with e1 e2 e3
  rw [e1, e2, e3]
  exact ⟨hp, rfl, hn⟩
end Go.Proofs.YtkdkhphpknnceaaDoor.F
