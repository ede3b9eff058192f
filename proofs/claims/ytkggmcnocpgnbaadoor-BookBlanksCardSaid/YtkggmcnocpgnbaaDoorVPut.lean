/- The contracts of the program's cells and Put. -/
import Derived.Test.YtkggmcnocpgnbaaDoorMerged4
import Derived.Test.YtkggmcnocpgnbaaDoorKErase
namespace Go.Proofs.YtkggmcnocpgnbaaDoor.K
open Go.RowKit

/-- what a rune stands in -/
def putL (k : Nat) (x s : Int) : List Cel := if k = 1 then [⟨x, s, 0⟩] else if k = 2 then [⟨x, s, 1⟩, ⟨x, s, 2⟩] else []
theorem putL_length {k : Nat} (h : k ≤ 2) (x s : Int) : (putL k x s).length = k := by
  unfold putL
  rcases (by omega : k = 0 ∨ k = 1 ∨ k = 2) with rfl | rfl | rfl <;> rfl
theorem OwnC.lits (rk : IntKind) (T : TypeId) (w : World) (l : List Cel) (n : Nat) (cells : Array Value) (hc : cells.toList = flatC rk l) (hl : l.length = n) (hn : (n : Int) ≤ 1000000) : OwnC rk T w.heap.size (.slice (some ⟨w.heap.size, 0, none⟩) n n) l (w.alloc (.cells cells T)) := by
  unfold OwnC
  rw [hl, ← hc]
  exact World.ownsRow_lit w cells n (Nat.le_refl _) (by unfold maxLen; omega) (by rw [← Array.length_toList, hc, flatC_len, hl])
set_option maxRecDepth 100000 in
set_option maxHeartbeats 4000000 in
theorem cells_any (x s : Int) (w : World) (hT : W.Tab w) : Calls Tryd.prog 83 #[.int .i32 x, .int .i64 s] w (CelPost 105 w.heap.size (putL (W.ofS x) x s) w) := by
  obtain ⟨P, hP⟩ : ∃ P, CelPost 105 w.heap.size (putL (W.ofS x) x s) w = P := ⟨_, rfl⟩
  rw [hP]
  have HP := Lib.hid hP
  have HOf := Lib.hid (W.of_any x w hT)
  have hle := W.ofS_le x
  obtain ⟨k, hk⟩ : ∃ k, W.ofS x = k := ⟨_, rfl⟩
  rw [hk] at HOf HP hle
  clear hP hk hT
  rcases (by omega : k = 0 ∨ k = 1 ∨ k = 2) with rfl | rfl | rfl
  all_goals
    go_enter Tryd.func83, Tryd.ntmps83
    go_wp2_with (go_at_call 108; refine HOf.out.mono ?_; rintro e w1 ⟨rfl, hb1⟩)
  · rw [← HP.out]
    exact ⟨_, rfl, OwnC.nil _ _ _ _, hb1⟩
  · rw [← HP.out]
    exact ⟨_, rfl, (OwnC.lits .i32 105 w1 [⟨x, s, 0⟩] 1 _ rfl rfl (by decide)).weaken hb1.size, hb1.alloc hb1.size _⟩
  · rw [← HP.out]
    exact ⟨_, rfl, (OwnC.lits .i32 105 w1 [⟨x, s, 1⟩, ⟨x, s, 2⟩] 2 _ rfl rfl (by decide)).weaken hb1.size, hb1.alloc hb1.size _⟩
/-- Put, as the program does it -/
def putC (k : Nat) (l : List Cel) (at_ x s : Int) : List Cel :=
  if at_ < 0 ∨ (l.length : Int) - k < at_ then mend l else mend (l.take at_.toNat ++ putL k x s ++ l.drop (at_.toNat + k))
theorem mendG_cons (p : Bool) (e : Cel) (L : List Cel) : mendG p (e :: L) = fixC p e L :: mendG (decide ((fixC p e L).part = 1)) L := rfl
theorem mendG_blk : ∀ (a : List Cel) (p : Bool) (c d : Cel) (t : List Cel), c.part = 1 → d.part ≠ 2 → mendG p (a ++ c :: d :: t) = mendG p (a ++ blk c.style :: d :: t)
  | [], p, c, d, t, h1, h2 => by
    have hb : badC p c (d :: t) = true := by unfold badC; rw [if_pos h1]; simpa using h2
    have e1 : fixC p c (d :: t) = blk c.style := by unfold fixC; rw [hb]; rfl
    have e2 : fixC p (blk c.style) (d :: t) = blk c.style := fix_zero rfl
    simp only [List.nil_append, mendG]
    rw [e1, e2]
  | [e], p, c, d, t, h1, h2 => by
    have ih := fun q => mendG_blk [] q c d t h1 h2
    simp only [List.nil_append] at ih
    have hb : badC p e (c :: d :: t) = badC p e (blk c.style :: d :: t) := by
      unfold badC
      simp [h1, blk]
    have hf : fixC p e (c :: d :: t) = fixC p e (blk c.style :: d :: t) := by unfold fixC; rw [hb]
    show mendG p (e :: c :: d :: t) = mendG p (e :: blk c.style :: d :: t)
    rw [mendG_cons p e (c :: d :: t), mendG_cons p e (blk c.style :: d :: t), hf, ih]
  | e :: f :: a, p, c, d, t, h1, h2 => by
    have ih := fun q => mendG_blk (f :: a) q c d t h1 h2
    have hb : badC p e (f :: a ++ c :: d :: t) = badC p e (f :: a ++ blk c.style :: d :: t) := by unfold badC; rfl
    have hf : fixC p e (f :: a ++ c :: d :: t) = fixC p e (f :: a ++ blk c.style :: d :: t) := by unfold fixC; rw [hb]
    show mendG p (e :: (f :: a ++ c :: d :: t)) = mendG p (e :: (f :: a ++ blk c.style :: d :: t))
    rw [mendG_cons p e (f :: a ++ c :: d :: t), mendG_cons p e (f :: a ++ blk c.style :: d :: t), hf, ih]
theorem split_one {l : List Cel} {A : Nat} (h : A < l.length) : l = l.take A ++ l[A] :: l.drop (A + 1) := by
  rw [← List.drop_eq_getElem_cons h, List.take_append_drop]
theorem set_mid (a t : List Cel) (u v : Cel) : (a ++ u :: t).set a.length v = a ++ v :: t := by
  rw [List.set_append_right _ _ (Nat.le_refl _), Nat.sub_self, List.set_cons_zero]
theorem put_one {l : List Cel} {A : Nat} (h : A < l.length) (c : Cel) : l.set A c = l.take A ++ [c] ++ l.drop (A + 1) := by
  have ha : (l.take A).length = A := by rw [List.length_take]; omega
  have h1 := set_mid (l.take A) (l.drop (A + 1)) l[A] c
  rw [ha, ← split_one h] at h1
  rw [h1]
  simp
theorem put_two {l : List Cel} {A : Nat} {x s : Int} (h : A + 2 ≤ l.length) : (l.set A ⟨x, s, 1⟩).set (A + 1) ⟨x, s, 2⟩ = l.take A ++ [⟨x, s, 1⟩, ⟨x, s, 2⟩] ++ l.drop (A + 2) := by
  have h0 : A < l.length := by omega
  have h1 : A + 1 < l.length := by omega
  have ha : (l.take A ++ [(⟨x, s, 1⟩ : Cel)]).length = A + 1 := by rw [List.length_append, List.length_take]; simp; omega
  rw [put_one h0, List.drop_eq_getElem_cons h1]
  have := set_mid (l.take A ++ [⟨x, s, 1⟩]) (l.drop (A + 1 + 1)) l[A + 1] ⟨x, s, 2⟩
  rw [ha] at this
  rw [this]
  simp
theorem putC_S {k : Nat} (hk : k ≤ 2) (l : List Cel) (at_ x s : Int) : putC k l at_ x s = putS k l at_ x s := by
  by_cases h : at_ < 0 ∨ (l.length : Int) - k < at_
  · have h1 : putC k l at_ x s = mend l := by unfold putC; rw [if_pos h]
    have h2 : putS k l at_ x s = mend l := by unfold putS; rw [if_pos (.inr h)]
    rw [h1, h2]
  · have h1 : putC k l at_ x s = mend (l.take at_.toNat ++ putL k x s ++ l.drop (at_.toNat + k)) := by unfold putC; rw [if_neg h]
    rw [h1]
    obtain ⟨A, rfl⟩ : ∃ A : Nat, at_ = (A : Int) := ⟨at_.toNat, by omega⟩
    have hA : A + k ≤ l.length := by omega
    simp only [Int.toNat_natCast]
    rcases (by omega : k = 0 ∨ k = 1 ∨ k = 2) with rfl | rfl | rfl
    · have h2 : putS 0 l A x s = mend l := by unfold putS; rw [if_pos (.inl rfl)]
      rw [h2]
      simp [putL]
    · have h2 : putS 1 l A x s = mend (l.set A ⟨x, s, 0⟩) := by
        unfold putS
        rw [if_neg (by rintro (h0 | h0); · omega
                       · exact h h0), if_neg (by omega)]
        rfl
      rw [h2, put_one (by omega)]
      rfl
    · have hp : putL 2 x s = [⟨x, s, 1⟩, ⟨x, s, 2⟩] := rfl
      rw [hp, ← put_two hA]
      unfold putS
      rw [if_neg (by rintro (h0 | h0); · omega
                     · exact h h0), if_pos rfl]
      simp only [Int.toNat_natCast]
      split
      · rename_i hc
        obtain ⟨B, rfl⟩ : ∃ B, A = B + 1 := ⟨A - 1, by omega⟩
        have hB : B < l.length := by omega
        have hgd : l.getD (B + 1 - 1) (blk 0) = l[B] := by rw [Nat.add_sub_cancel, List.getD_eq_getElem?_getD, List.getElem?_eq_getElem hB]; rfl
        rw [hgd] at hc ⊢
        rw [put_two hA, List.take_succ_eq_append_getElem hB, Nat.add_sub_cancel]
        have hlen : (l.take B).length = B := by rw [List.length_take]; omega
        have e1 : (l.take B ++ [l[B]] ++ [⟨x, s, 1⟩, ⟨x, s, 2⟩] ++ l.drop (B + 1 + 2)) = l.take B ++ l[B] :: (⟨x, s, 1⟩ :: ⟨x, s, 2⟩ :: l.drop (B + 1 + 2)) := by simp only [List.append_assoc, List.cons_append, List.nil_append]
        have e2 := set_mid (l.take B) (⟨x, s, 1⟩ :: ⟨x, s, 2⟩ :: l.drop (B + 1 + 2)) l[B] (blk l[B].style)
        rw [hlen] at e2
        rw [e1, e2]
        exact mendG_blk _ false _ _ _ hc.2 (by simp)
      · rfl
theorem putC_flat {rk : IntKind} {l p : List Cel} {A k : Nat} : flatC rk (l.take A ++ p ++ l.drop (A + k)) = (flatC rk l).take (A * 3) ++ flatC rk p ++ (flatC rk l).drop ((A + k) * 3) := by
  rw [flatC_append, flatC_append, flatC_take, flatC_drop]
end Go.Proofs.YtkggmcnocpgnbaaDoor.K
