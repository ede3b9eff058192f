/- Lines by their last put: which of them are at hand, and how the newest are told, one by one; the law's own two maps. -/
import Derived.Test.YtkdkhphpknnceaaCRoM
namespace Go.Proofs.Ytkdkhphpknnceaa.C
open Go.RowKit Go.Maps Go.Proofs.Ytkdkhphpknnceaa.H

/-! ### lines by their last put -/
def updU (U : List Ent) (e : Ent) : List Ent := dropC U e.1 ++ [e]
def allU (ps : List Ent) : List Ent := ps.foldl updU []
theorem allU_snoc (ps : List Ent) (e : Ent) : allU (ps ++ [e]) = updU (allU ps) e := by unfold allU; rw [List.foldl_append]; rfl
theorem dropC_out {U : List Ent} {k : Int} {e : Ent} (h : e ∈ dropC U k) : e ∈ U ∧ e.1 ≠ k := by
  obtain ⟨h1, h2⟩ := List.mem_filter.1 h
  exact ⟨h1, by simpa using h2⟩
theorem dropC_nodup {U : List Ent} {k : Int} (h : (U.map (·.1)).Nodup) : ((dropC U k).map (·.1)).Nodup := List.Nodup.sublist (List.Sublist.map _ List.filter_sublist) h
theorem updU_nodup {U : List Ent} {e : Ent} (h : (U.map (·.1)).Nodup) : ((updU U e).map (·.1)).Nodup := by
  unfold updU
  rw [List.map_append]
  refine List.nodup_append.2 ⟨dropC_nodup h, by simp, fun a ha b hb e9 => ?_⟩
  obtain ⟨y, hy, rfl⟩ := List.mem_map.1 ha
  exact (dropC_out hy).2 (by simpa [e9] using hb)
theorem foldU_nodup : ∀ (ps U : List Ent), (U.map (·.1)).Nodup → ((ps.foldl updU U).map (·.1)).Nodup
  | [], _, h => h
  | e :: ps, U, h => foldU_nodup ps _ (updU_nodup h)
theorem allU_nodup (ps : List Ent) : ((allU ps).map (·.1)).Nodup := foldU_nodup ps [] List.nodup_nil
theorem dropC_append (A B : List Ent) (k : Int) : dropC (A ++ B) k = dropC A k ++ dropC B k := by unfold dropC; exact List.filter_append _ _
theorem dropC_len {L : List Ent} {k : Int} (hn : (L.map (·.1)).Nodup) : L.length ≤ (dropC L k).length + 1 := by
  by_cases h : ∃ x ∈ L, x.1 = k
  · obtain ⟨x, hx, rfl⟩ := h
    obtain ⟨A, B, rfl⟩ := List.append_of_mem hx
    rw [drop_one hn]
    simp
    omega
  · rw [drop_none (fun x hx e => h ⟨x, hx, e⟩)]
    omega
/-- L is the end of U, as much as may be -/
def TailOf (m : Nat) (U L : List Ent) : Prop := ∃ P, U = P ++ L ∧ L.length ≤ m ∧ (L.length = m ∨ P = [])
theorem tail_put {m : Nat} {U : List Ent} {x : Ca} {k : Int} {g : List (Int × Int)} (h : TailOf m U x.L) (hx : x.most = m) (hn : (U.map (·.1)).Nodup) (hk : 0 ≤ k ∧ k ≤ 1152921504606846976) (hm : 1 ≤ m) : TailOf m (updU U (k, g)) (putC x k g).1.L := by
  obtain ⟨P, rfl, h1, h2⟩ := h
  have hnL : (x.L.map (·.1)).Nodup := by rw [List.map_append] at hn; exact (List.nodup_append.1 hn).2.1
  have hl := dropC_len (k := k) hnL
  have hle : (dropC x.L k).length ≤ x.L.length := List.length_filter_le _ _
  have e1 : updU (P ++ x.L) (k, g) = dropC P k ++ (dropC x.L k ++ [(k, g)]) := by
    show dropC (P ++ x.L) k ++ [(k, g)] = _
    rw [dropC_append, List.append_assoc]
  rw [e1]
  have e2 : (dropC x.L k ++ [(k, g)]).length = (dropC x.L k).length + 1 := by simp
  unfold putC
  rw [if_neg (by omega)]
  by_cases hc : (dropC x.L k ++ [(k, g)]).length ≤ x.most
  · rw [if_pos hc]
    refine ⟨dropC P k, rfl, by rw [← hx]; exact hc, ?_⟩
    rcases h2 with h2 | rfl
    · left
      show (dropC x.L k ++ [(k, g)]).length = m
      omega
    · exact .inr rfl
  · rw [if_neg hc]
    have hlen : (dropC x.L k).length = m := by omega
    show TailOf m _ (dropC x.L k ++ [(k, g)]).tail
    cases hd : dropC x.L k with
    | nil => rw [hd] at hlen; simp at hlen; omega
    | cons y ys =>
      rw [hd] at hlen
      simp at hlen
      refine ⟨dropC P k ++ [y], by simp, by simp; omega, .inl (by simp; omega)⟩
theorem find_at : ∀ {L : List Ent} {x : Ent}, (L.map (·.1)).Nodup → x ∈ L → findC L x.1 = some x.2
  | [], _, _, h => by cases h
  | y :: L, x, hn, h => by
    by_cases e : y.1 = x.1
    · rcases List.mem_cons.1 h with rfl | h
      · unfold findC
        rw [List.find?_cons]
        simp
      · exact absurd (List.mem_map.2 ⟨x, h, e.symm⟩) (List.nodup_cons.1 hn).1
    · have h2 : x ∈ L := (List.mem_cons.1 h).resolve_left (fun e2 => e (by rw [e2]))
      have ih := find_at (List.nodup_cons.1 hn).2 h2
      unfold findC at ih ⊢
      rw [List.find?_cons]
      have e3 : (y.1 == x.1) = false := by simpa using e
      rw [e3]
      exact ih
/-- which one is at hand, of those with B behind it -/
theorem tail_find {m : Nat} {A B L : List Ent} {x : Ent} (h : TailOf m (A ++ x :: B) L) (hn : ((A ++ x :: B).map (·.1)).Nodup) : findC L x.1 = if B.length < m then some x.2 else none := by
  obtain ⟨P, he, h1, h2⟩ := h
  have hl : A.length + (B.length + 1) = P.length + L.length := by
    have := congrArg List.length he
    simpa using this
  have hnL : (L.map (·.1)).Nodup := by rw [he, List.map_append] at hn; exact (List.nodup_append.1 hn).2.1
  have hLd : L = (A ++ x :: B).drop P.length := by rw [he]; simp
  split
  · rename_i hlt
    refine find_at hnL ?_
    have hP : P.length ≤ A.length := by
      rcases h2 with h2 | rfl
      · omega
      · simp
    rw [hLd, List.drop_append_of_le_length hP]
    simp
  · rename_i hlt
    refine find_none L x.1 (fun y hy e9 => ?_)
    have hP : A.length + 1 ≤ P.length := by omega
    have hy2 : y ∈ B := by
      rw [hLd, show A ++ x :: B = (A ++ [x]) ++ B by simp, List.drop_append, List.drop_eq_nil_of_le (by simp; omega), List.nil_append] at hy
      exact List.mem_of_mem_drop hy
    rw [List.map_append, List.map_cons] at hn
    exact (List.nodup_cons.1 (List.nodup_append.1 hn).2.1).1 (by rw [← e9]; exact List.mem_map.2 ⟨y, hy2, rfl⟩)
/-! ### told from behind -/
/-- all puts from the i-th on are told: B are their lines, A are those that are left -/
def Walk (ps : List Ent) (i : Nat) (A B : List Ent) : Prop := allU ps = A ++ B ∧ A = (allU (ps.take i)).filter (fun e => !((ps.drop i).any fun y => y.1 == e.1)) ∧ ∀ k, (∃ e ∈ B, e.1 = k) ↔ ∃ e ∈ ps.drop i, e.1 = k
theorem Walk.start (ps : List Ent) : Walk ps ps.length (allU ps) [] := by
  refine ⟨by simp, ?_, by simp⟩
  rw [List.take_length, List.drop_length]
  exact (List.filter_eq_self.2 (fun _ _ => rfl)).symm
theorem walk_left {ps : List Ent} {i : Nat} {x : Ent} (h : ps[i]? = some x) : (dropC (allU (ps.take i)) x.1).filter (fun e => !((ps.drop (i + 1)).any fun y => y.1 == e.1)) = (allU (ps.take i)).filter (fun e => !((ps.drop i).any fun y => y.1 == e.1)) := by
  unfold dropC
  rw [List.filter_filter, drop_consE ps i x h]
  congr 1
  funext e
  rw [List.any_cons]
  by_cases e9 : e.1 = x.1
  · simp [e9]
  · have e8 : (e.1 == x.1) = false := by simpa using e9
    have e7 : (x.1 == e.1) = false := by simpa using Ne.symm e9
    rw [e8, e7]
    simp
theorem walk_all {ps : List Ent} {i : Nat} {x : Ent} (h : ps[i]? = some x) : allU (ps.take (i + 1)) = dropC (allU (ps.take i)) x.1 ++ [x] := by rw [take_snocE ps i x h, allU_snoc]; rfl
theorem Walk.old {ps A B : List Ent} {i : Nat} {x : Ent} (h : Walk ps (i + 1) A B) (hx : ps[i]? = some x) (hs : ∃ e ∈ B, e.1 = x.1) : Walk ps i A B := by
  obtain ⟨h1, h2, h3⟩ := h
  refine ⟨h1, ?_, fun k => ?_⟩
  · rw [walk_all hx, List.filter_append, walk_left hx] at h2
    rw [h2]
    obtain ⟨e, he, e9⟩ := (h3 x.1).1 hs
    have : ((ps.drop (i + 1)).any fun y => y.1 == x.1) = true := List.any_eq_true.2 ⟨e, he, by simpa using e9⟩
    rw [List.filter_cons, this]
    simp
  · rw [h3, drop_consE ps i x hx]
    constructor
    · rintro ⟨e, he, rfl⟩
      exact ⟨e, List.mem_cons_of_mem _ he, rfl⟩
    · rintro ⟨e, he, rfl⟩
      rcases List.mem_cons.1 he with rfl | he
      · exact (h3 _).1 hs
      · exact ⟨e, he, rfl⟩
theorem Walk.fresh {ps A B : List Ent} {i : Nat} {x : Ent} (h : Walk ps (i + 1) A B) (hx : ps[i]? = some x) (hs : ∀ e ∈ B, e.1 ≠ x.1) : ∃ A', A = A' ++ [x] ∧ Walk ps i A' (x :: B) := by
  obtain ⟨h1, h2, h3⟩ := h
  have hno : ((ps.drop (i + 1)).any fun y => y.1 == x.1) = false := by
    rw [List.any_eq_false]
    intro y hy e9
    obtain ⟨e, he, e8⟩ := (h3 x.1).2 ⟨y, hy, by simpa using e9⟩
    exact hs e he e8
  rw [walk_all hx, List.filter_append, walk_left hx, List.filter_cons, hno] at h2
  simp only [Bool.not_false, if_true, List.filter_nil] at h2
  refine ⟨_, h2, by rw [h1, h2]; simp, rfl, fun k => ?_⟩
  rw [drop_consE ps i x hx]
  constructor
  · rintro ⟨e, he, rfl⟩
    rcases List.mem_cons.1 he with rfl | he
    · exact ⟨e, by simp, rfl⟩
    · obtain ⟨e2, he2, e9⟩ := (h3 e.1).1 ⟨e, he, rfl⟩
      exact ⟨e2, List.mem_cons_of_mem _ he2, e9⟩
  · rintro ⟨e, he, rfl⟩
    rcases List.mem_cons.1 he with rfl | he
    · exact ⟨e, by simp, rfl⟩
    · obtain ⟨e2, he2, e9⟩ := (h3 e.1).2 ⟨e, he, rfl⟩
      exact ⟨e2, List.mem_cons_of_mem _ he2, e9⟩
end Go.Proofs.Ytkdkhphpknnceaa.C
