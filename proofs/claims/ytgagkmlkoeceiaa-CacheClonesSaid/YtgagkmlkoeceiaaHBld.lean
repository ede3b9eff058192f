/- The document's build, as a function: edges, and what is kept between them. -/
import Derived.Test.YtgagkmlkoeceiaaMerged9
namespace Go.Proofs.Ytgagkmlkoeceiaa.H
open Go.RowKit

def insE (e : Int) : List Int → List Int
  | [] => [e]
  | f :: l => if f < e then f :: insE e l else if f = e then f :: l else e :: f :: l
/-- how many edges are below -/
def ltE (e : Int) : List Int → Nat
  | [] => 0
  | f :: l => if f < e then ltE e l + 1 else 0
theorem ltE_le (e : Int) : ∀ (l : List Int), ltE e l ≤ l.length
  | [] => Nat.le_refl _
  | f :: l => by
    have := ltE_le e l
    unfold ltE
    split <;> simp <;> omega
theorem ltE_lt (e : Int) : ∀ (l : List Int) (i : Nat) (f : Int), l[i]? = some f → i < ltE e l → f < e
  | [], i, f, h, _ => by simp at h
  | g :: l, i, f, h, hi => by
    unfold ltE at hi
    split at hi
    · match i, h with
      | 0, h => obtain rfl : g = f := by simpa using h
                assumption
      | i + 1, h => exact ltE_lt e l i f (by simpa using h) (by omega)
    · omega
theorem ltE_at (e : Int) : ∀ (l : List Int) (f : Int), l[ltE e l]? = some f → e ≤ f
  | [], f, h => by simp [ltE] at h
  | g :: l, f, h => by
    unfold ltE at h
    split at h
    · exact ltE_at e l f (by simpa using h)
    · obtain rfl : g = f := by simpa using h
      omega
theorem insE_eq (e : Int) : ∀ (l : List Int), insE e l = if l[ltE e l]? = some e then l else l.take (ltE e l) ++ e :: l.drop (ltE e l)
  | [] => rfl
  | f :: l => by
    unfold insE ltE
    by_cases h : f < e
    · rw [if_pos h, if_pos h, insE_eq e l]
      simp only [List.getElem?_cons_succ, List.take_succ_cons, List.drop_succ_cons]
      split <;> rfl
    · rw [if_neg h, if_neg h]
      simp only [List.getElem?_cons_zero, Option.some.injEq, List.take_zero, List.drop_zero, List.nil_append]
theorem insE_mem (e n : Int) : ∀ (l : List Int), n ∈ insE e l ↔ n = e ∨ n ∈ l
  | [] => by simp [insE]
  | f :: l => by
    unfold insE
    split
    · simp only [List.mem_cons, insE_mem e n l]
      constructor
      · rintro (h | h | h)
        · exact .inr (.inl h)
        · exact .inl h
        · exact .inr (.inr h)
      · rintro (h | h | h)
        · exact .inr (.inl h)
        · exact .inl h
        · exact .inr (.inr h)
    · split
      · rename_i h1 h2
        subst h2
        simp [List.mem_cons]
      · simp [List.mem_cons]
/-- strictly rising -/
def Asc (l : List Int) : Prop := l.Pairwise (· < ·)
theorem insE_asc (e : Int) : ∀ {l : List Int}, Asc l → Asc (insE e l)
  | [], _ => by simp [insE, Asc]
  | f :: l, h => by
    unfold Asc at h ⊢
    rw [List.pairwise_cons] at h
    unfold insE
    split
    · rename_i hf
      rw [List.pairwise_cons]
      refine ⟨fun y hy => ?_, insE_asc e (l := l) h.2⟩
      rcases (insE_mem e y l).1 hy with rfl | hy
      · exact hf
      · exact h.1 y hy
    · split
      · rw [List.pairwise_cons]; exact h
      · rename_i h1 h2
        rw [List.pairwise_cons, List.pairwise_cons]
        refine ⟨fun y hy => ?_, h⟩
        rcases List.mem_cons.1 hy with rfl | hy
        · omega
        · have := h.1 y hy; omega
theorem insE_len (e : Int) (l : List Int) : (insE e l).length ≤ l.length + 1 := by
  rw [insE_eq]
  split
  · omega
  · have := ltE_le e l
    simp; omega
def edgesF (E : List Int) (l : List Sp) : List Int := l.foldl (fun E x => insE x.2 (insE x.1 E)) E
theorem edgesF_mem (n : Int) : ∀ (l : List Sp) (E : List Int), n ∈ edgesF E l ↔ n ∈ E ∨ ∃ x ∈ l, n = x.1 ∨ n = x.2
  | [], E => by simp [edgesF]
  | x :: l, E => by
    show n ∈ edgesF (insE x.2 (insE x.1 E)) l ↔ _
    rw [edgesF_mem n l, insE_mem, insE_mem]
    simp only [List.mem_cons, exists_eq_or_imp]
    constructor
    · rintro ((h | h | h) | h)
      · exact .inr (.inl (.inr h))
      · exact .inr (.inl (.inl h))
      · exact .inl h
      · exact .inr (.inr h)
    · rintro (h | (h | h) | h)
      · exact .inl (.inr (.inr h))
      · exact .inl (.inr (.inl h))
      · exact .inl (.inl h)
      · exact .inr h
theorem edgesF_asc : ∀ (l : List Sp) {E : List Int}, Asc E → Asc (edgesF E l)
  | [], _, h => h
  | x :: l, E, h => edgesF_asc l (E := insE x.2 (insE x.1 E)) (insE_asc _ (insE_asc _ h))
theorem edgesF_len : ∀ (l : List Sp) (E : List Int), (edgesF E l).length ≤ E.length + 2 * l.length
  | [], E => by simp [edgesF]
  | x :: l, E => by
    have h1 := edgesF_len l (insE x.2 (insE x.1 E))
    have h2 := insE_len x.2 (insE x.1 E)
    have h3 := insE_len x.1 E
    show (edgesF (insE x.2 (insE x.1 E)) l).length ≤ _
    simp only [List.length_cons]
    omega
theorem edgesF_take (E : List Int) (l : List Sp) (k : Nat) (x : Sp) (hx : l[k]? = some x) : edgesF E (l.take (k + 1)) = insE x.2 (insE x.1 (edgesF E (l.take k))) := by
  have hk := List.getElem?_eq_some_iff.1 hx
  rw [List.take_succ_eq_append_getElem hk.1, hk.2]
  simp [edgesF, List.foldl_append]
/-- a span behind others, put to the last one where they touch -/
def putE : List Sp → Int → Int → List Sp
  | [], e, f => [(e, f)]
  | [y], e, f => if y.2 = e then [(y.1, f)] else [y, (e, f)]
  | y :: z :: l, e, f => y :: putE (z :: l) e f
theorem putE_last : ∀ (acc : List Sp) (e f : Int) (n : Nat) (y : Sp), acc.length = n + 1 → acc[n]? = some y → putE acc e f = if y.2 = e then acc.set n (y.1, f) else acc ++ [(e, f)]
  | [], _, _, _, _, h, _ => by simp at h
  | [z], e, f, n, y, h, hy => by
    obtain rfl : n = 0 := by simp at h; omega
    obtain rfl : z = y := by simpa using hy
    unfold putE
    split <;> rfl
  | z :: z2 :: l, e, f, n, y, h, hy => by
    match n, h, hy with
    | 0, h, hy => simp at h
    | n + 1, h, hy =>
      unfold putE
      rw [putE_last (z2 :: l) e f n y (by simpa using h) (by simpa using hy)]
      split
      · rw [List.set_cons_succ]
      · rfl
theorem putE_norm {e f : Int} (hef : e < f) : ∀ {acc : List Sp} {b : Int}, Norm b acc → Top e acc → b ≤ e → Norm b (putE acc e f) ∧ Top f (putE acc e f)
  | [], b, _, _, hb => ⟨⟨hb, hef, trivial⟩, fun x hx => by rw [List.mem_singleton.1 hx]; exact Int.le_refl _⟩
  | [y], b, hn, ht, hb => by
    have h1 := ht.cons.1
    have h2 := hn.1
    have h3 := hn.2.1
    unfold putE
    split
    · exact ⟨⟨h2, by simp only; omega, trivial⟩, fun x hx => by rw [List.mem_singleton.1 hx]; exact Int.le_refl _⟩
    · refine ⟨⟨h2, h3, by simp only; omega, hef, trivial⟩, fun x hx => ?_⟩
      rcases List.mem_cons.1 hx with rfl | hx
      · omega
      · rw [List.mem_singleton.1 hx]; exact Int.le_refl _
  | y :: z :: l, b, hn, ht, hb => by
    have h1 := ht.cons.2.cons.1
    have h2 := hn.2.2.1
    have h3 := hn.2.2.2.1
    have ih := putE_norm hef (acc := z :: l) (b := y.2 + 1) hn.2.2 ht.cons.2 (by omega)
    unfold putE
    refine ⟨⟨hn.1, hn.2.1, ih.1⟩, fun x hx => ?_⟩
    rcases List.mem_cons.1 hx with rfl | hx
    · omega
    · exact ih.2 x hx
theorem putE_mem (n : Int) {e f : Int} (hef : e < f) : ∀ {acc : List Sp} {b : Int}, Norm b acc → Top e acc → (mem n (putE acc e f) ↔ mem n acc ∨ (e ≤ n ∧ n < f))
  | [], _, _, _ => by simp [putE, mem, inx]
  | [y], b, hn, ht => by
    have h1 := ht.cons.1
    have h3 := hn.2.1
    unfold putE
    split
    · simp only [mem, inx, or_false]
      constructor
      · rintro ⟨h4, h5⟩
        by_cases hh : n < y.2
        · exact .inl ⟨h4, hh⟩
        · exact .inr ⟨by omega, h5⟩
      · rintro (h | h)
        · exact ⟨h.1, by omega⟩
        · exact ⟨by omega, h.2⟩
    · simp only [mem, inx, or_false]
  | y :: z :: l, b, hn, ht => by
    unfold putE
    simp only [mem]
    have := putE_mem n hef (acc := z :: l) hn.2.2 ht.cons.2
    rw [this]
    simp only [mem, or_assoc]
theorem putE_len : ∀ (acc : List Sp) (e f : Int), (putE acc e f).length ≤ acc.length + 1
  | [], _, _ => by simp [putE]
  | [y], e, f => by unfold putE; split <;> simp
  | y :: z :: l, e, f => by
    have := putE_len (z :: l) e f
    unfold putE
    simp only [List.length_cons] at this ⊢
    omega
/-- what is kept of the first i stretches -/
def outN (q : Int → Bool) (E : List Int) : Nat → List Sp
  | 0 => []
  | i + 1 => match E[i]?, E[i + 1]? with
    | some e, some f => if q e then putE (outN q E i) e f else outN q E i
    | _, _ => outN q E i
theorem outN_succ (q : Int → Bool) (E : List Int) (i : Nat) (e f : Int) (he : E[i]? = some e) (hf : E[i + 1]? = some f) : outN q E (i + 1) = if q e then putE (outN q E i) e f else outN q E i := by
  simp only [outN, he, hf]
theorem outN_len (q : Int → Bool) (E : List Int) : ∀ (i : Nat), (outN q E i).length ≤ i
  | 0 => Nat.le_refl _
  | i + 1 => by
    have h := outN_len q E i
    simp only [outN]
    split
    · split
      · rename_i e f _ _ _
        have := putE_len (outN q E i) e f
        omega
      · omega
    · omega
theorem Asc.at {E : List Int} (h : Asc E) {i j : Nat} {e f : Int} (he : E[i]? = some e) (hf : E[j]? = some f) (hij : i < j) : e < f := by
  have h1 := List.getElem?_eq_some_iff.1 he
  have h2 := List.getElem?_eq_some_iff.1 hf
  have := List.pairwise_iff_getElem.1 h i j h1.1 h2.1 hij
  rw [h1.2, h2.2] at this
  exact this
theorem outN_all {q : Int → Bool} {E : List Int} (h : Asc E) {b : Int} (hb : ∀ e ∈ E, b ≤ e) : ∀ (i : Nat) (e : Int), E[i]? = some e → Norm b (outN q E i) ∧ Top e (outN q E i) ∧ ∀ n, (mem n (outN q E i) ↔ ∃ (j : Nat) (f g : Int), j < i ∧ E[j]? = some f ∧ E[j + 1]? = some g ∧ f ≤ n ∧ n < g ∧ q f = true)
  | 0, e, _ => ⟨trivial, (fun x hx => by cases hx), fun n => by simp [outN, mem]⟩
  | i + 1, f, hf => by
    obtain ⟨e, he⟩ : ∃ e, E[i]? = some e := ⟨_, List.getElem?_eq_getElem (by have := (List.getElem?_eq_some_iff.1 hf).1; omega)⟩
    have hef := h.at he hf (Nat.lt_succ_self i)
    obtain ⟨h1, h2, h3⟩ := outN_all (q := q) h hb i e he
    rw [outN_succ q E i e f he hf]
    have hbe := hb e (List.mem_of_getElem? he)
    split
    · rename_i hq
      obtain ⟨k1, k2⟩ := putE_norm hef h1 h2 hbe
      refine ⟨k1, k2, fun n => ?_⟩
      rw [putE_mem n hef h1 h2, h3 n]
      constructor
      · rintro (⟨j, f', g', hj, rest⟩ | ⟨h4, h5⟩)
        · exact ⟨j, f', g', by omega, rest⟩
        · exact ⟨i, e, f, Nat.lt_succ_self i, he, hf, h4, h5, hq⟩
      · rintro ⟨j, f', g', hj, r1, r2, r3, r4, r5⟩
        rcases Nat.lt_or_ge j i with hji | hji
        · exact .inl ⟨j, f', g', hji, r1, r2, r3, r4, r5⟩
        · obtain rfl : j = i := by omega
          rw [he] at r1
          rw [hf] at r2
          cases r1
          cases r2
          exact .inr ⟨r3, r4⟩
    · rename_i hq
      refine ⟨h1, h2.mono (Int.le_of_lt hef), fun n => ?_⟩
      rw [h3 n]
      constructor
      · rintro ⟨j, f', g', hj, rest⟩
        exact ⟨j, f', g', by omega, rest⟩
      · rintro ⟨j, f', g', hj, r1, r2, r3, r4, r5⟩
        rcases Nat.lt_or_ge j i with hji | hji
        · exact ⟨j, f', g', hji, r1, r2, r3, r4, r5⟩
        · obtain rfl : j = i := by omega
          rw [he] at r1
          cases r1
          exact absurd r5 hq
/-- the stretch in which a number between two edges is -/
theorem Asc.stretch : ∀ {E : List Int}, Asc E → ∀ {n x y : Int}, x ∈ E → y ∈ E → x ≤ n → n < y → ∃ (j : Nat) (f g : Int), E[j]? = some f ∧ E[j + 1]? = some g ∧ f ≤ n ∧ n < g
  | [], _, _, _, _, hx, _, _, _ => by cases hx
  | e :: E, h, n, x, y, hx, hy, hxn, hny => by
    unfold Asc at h
    rw [List.pairwise_cons] at h
    have hen : e ≤ n := by
      rcases List.mem_cons.1 hx with rfl | hx
      · exact hxn
      · have := h.1 x hx; omega
    have hyE : y ∈ E := by
      rcases List.mem_cons.1 hy with rfl | hy
      · omega
      · exact hy
    match E, h, hyE with
    | f :: E', h, hyE =>
      by_cases hf : n < f
      · exact ⟨0, e, f, rfl, rfl, hen, hf⟩
      · obtain ⟨j, f', g', h1, h2, h3, h4⟩ := Asc.stretch (E := f :: E') h.2 List.mem_cons_self hyE (by omega) hny
        exact ⟨j + 1, f', g', by simpa using h1, by simpa using h2, h3, h4⟩
/-- between two edges that stand beside each other nothing changes -/
theorem Asc.same {E : List Int} (h : Asc E) {l : List Sp} (hl : ∀ x ∈ l, x.1 ∈ E ∧ x.2 ∈ E) {j : Nat} {f g n : Int} (hf : E[j]? = some f) (hg : E[j + 1]? = some g) (h1 : f ≤ n) (h2 : n < g) : mem n l ↔ mem f l := by
  have btw : ∀ x ∈ E, x ≤ f ∨ g ≤ x := by
    intro x hx
    obtain ⟨i, hi⟩ := List.mem_iff_getElem?.1 hx
    rcases Nat.lt_trichotomy i j with hij | hij | hij
    · have := h.at hi hf hij; omega
    · subst hij; rw [hf] at hi; cases hi; omega
    · rcases Nat.lt_or_ge (j + 1) i with h3 | h3
      · have := h.at hg hi h3; omega
      · obtain rfl : i = j + 1 := by omega
        rw [hg] at hi; cases hi; omega
  rw [mem_iff, mem_iff]
  constructor
  · rintro ⟨x, hx, h3, h4⟩
    refine ⟨x, hx, ?_, by omega⟩
    rcases btw _ (hl x hx).1 with h5 | h5 <;> omega
  · rintro ⟨x, hx, h3, h4⟩
    refine ⟨x, hx, by omega, ?_⟩
    rcases btw _ (hl x hx).2 with h5 | h5 <;> omega
def buildS (m : Nat) (a b : List Sp) : List Sp := outN (fun e => kp m (hasS e a) (hasS e b)) (edgesF [] (a ++ b)) ((edgesF [] (a ++ b)).length - 1)
theorem buildS_all {m : Nat} {a b : List Sp} (ha : Nm a) (hb : Nm b) (hk : kp m false false = false) : Nm (buildS m a b) ∧ ∀ n, (mem n (buildS m a b) ↔ kp m (hasS n a) (hasS n b) = true) := by
  obtain ⟨E, hE⟩ : ∃ E, edgesF [] (a ++ b) = E := ⟨_, rfl⟩
  have hasc : Asc E := by rw [← hE]; exact edgesF_asc _ List.Pairwise.nil
  have hmem : ∀ x, x ∈ a ∨ x ∈ b → x.1 ∈ E ∧ x.2 ∈ E := by
    intro x hx
    rw [← hE]
    exact ⟨(edgesF_mem _ _ _).2 (.inr ⟨x, List.mem_append.2 hx, .inl rfl⟩), (edgesF_mem _ _ _).2 (.inr ⟨x, List.mem_append.2 hx, .inr rfl⟩)⟩
  have hbnd : ∀ e ∈ E, lo ≤ e ∧ e ≤ hi := by
    intro e he
    rw [← hE] at he
    rcases (edgesF_mem _ _ _).1 he with h | ⟨x, hx, h⟩
    · cases h
    · have hs : lo ≤ x.1 ∧ x.1 ≤ x.2 ∧ x.2 ≤ hi := by
        have sp : ∀ {l : List Sp}, Nm l → x ∈ l → lo ≤ x.1 ∧ x.1 ≤ x.2 ∧ x.2 ≤ hi := by
          intro l h hx
          obtain ⟨i, hi⟩ := List.mem_iff_getElem?.1 hx
          exact ⟨h.1.begins x hx, Int.le_of_lt (h.1.full i x hi), h.2 x hx⟩
        rcases List.mem_append.1 hx with h | h
        · exact sp ha h
        · exact sp hb h
      rcases h with rfl | rfl <;> omega
  unfold buildS
  rw [hE]
  by_cases h0 : E.length = 0
  · have : E = [] := List.length_eq_zero_iff.1 h0
    subst this
    refine ⟨Nm.nil, fun n => ?_⟩
    have no : ∀ (l : List Sp), (∀ x ∈ l, x ∈ a ∨ x ∈ b) → hasS n l = false := by
      intro l hl
      cases hh : hasS n l with
      | false => rfl
      | true =>
        obtain ⟨x, hx, -⟩ := (mem_iff n l).1 ((hasS_mem n l).1 hh)
        have := (hmem x (hl x hx)).1
        cases this
    rw [no a (fun x hx => .inl hx), no b (fun x hx => .inr hx), hk]
    simp [outN, mem]
  · obtain ⟨e, he⟩ : ∃ e, E[E.length - 1]? = some e := ⟨_, List.getElem?_eq_getElem (by omega)⟩
    obtain ⟨h1, h2, h3⟩ := outN_all (q := fun e => kp m (hasS e a) (hasS e b)) hasc (b := lo) (fun e he => (hbnd e he).1) (E.length - 1) e he
    refine ⟨⟨h1, h2.mono (hbnd e (List.mem_of_getElem? he)).2⟩, fun n => ?_⟩
    rw [h3 n]
    have hs : ∀ (l : List Sp), (∀ x ∈ l, x ∈ a ∨ x ∈ b) → ∀ (j : Nat) (f g : Int), E[j]? = some f → E[j + 1]? = some g → f ≤ n → n < g → hasS f l = hasS n l := by
      intro l hl j f g r1 r2 r3 r4
      have := hasc.same (l := l) (fun x hx => hmem x (hl x hx)) r1 r2 r3 r4
      rw [← hasS_mem, ← hasS_mem] at this
      cases h4 : hasS f l <;> cases h5 : hasS n l <;> simp_all
    constructor
    · rintro ⟨j, f, g, hj, r1, r2, r3, r4, r5⟩
      rw [hs a (fun x hx => .inl hx) j f g r1 r2 r3 r4, hs b (fun x hx => .inr hx) j f g r1 r2 r3 r4] at r5
      exact r5
    · intro hq
      have hin : ∃ x, (x ∈ a ∨ x ∈ b) ∧ inx n x := by
        cases h4 : hasS n a with
        | true =>
          obtain ⟨x, hx, hi⟩ := (mem_iff n a).1 ((hasS_mem n a).1 h4)
          exact ⟨x, .inl hx, hi⟩
        | false =>
          cases h5 : hasS n b with
          | true =>
            obtain ⟨x, hx, hi⟩ := (mem_iff n b).1 ((hasS_mem n b).1 h5)
            exact ⟨x, .inr hx, hi⟩
          | false => rw [h4, h5, hk] at hq; cases hq
      obtain ⟨x, hx, hi⟩ := hin
      obtain ⟨j, f, g, r1, r2, r3, r4⟩ := hasc.stretch (hmem x hx).1 (hmem x hx).2 hi.1 hi.2
      refine ⟨j, f, g, by have := (List.getElem?_eq_some_iff.1 r2).1; omega, r1, r2, r3, r4, ?_⟩
      rw [hs a (fun x hx => .inl hx) j f g r1 r2 r3 r4, hs b (fun x hx => .inr hx) j f g r1 r2 r3 r4]
      exact hq
theorem oneS_nm (x : Sp) : Nm (oneS x) := by
  unfold oneS
  split
  · rename_i h
    exact ⟨⟨near_lo _, h, trivial⟩, fun y hy => by rw [List.mem_singleton.1 hy]; exact near_hi _⟩
  · exact Nm.nil
theorem oneS_mem (n : Int) (x : Sp) : mem n (oneS x) ↔ inx n (cnt x) := by
  unfold oneS
  split
  · simp [mem]
  · rename_i h
    simp only [mem, false_iff]
    rintro ⟨h1, h2⟩
    omega
theorem build_add {l : List Sp} (h : Nm l) (x : Sp) : buildS 0 l (oneS x) = addS l x := by
  obtain ⟨h1, h2⟩ := buildS_all (m := 0) h (oneS_nm x) rfl
  refine Nm.ext h1 (h.add x) fun n => ?_
  rw [h2 n, addS_mem n h, ← oneS_mem, ← hasS_mem, ← hasS_mem]
  simp [kp, or_comm]
end Go.Proofs.Ytgagkmlkoeceiaa.H
