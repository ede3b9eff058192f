/- What was written is read: a datagram's bytes. -/
import Derived.Test.YtghnkpfnpidncaaDoorGRefC
import Derived.Test.YtghnkpfnpidncaaDoorGAwake
namespace Go.Proofs.YtghnkpfnpidncaaDoor.G
open Go.RowKit Go.Proofs.YtghnkpfnpidncaaDoor.I

theorem numS_back (z : Int) (r : List UInt8) : numS (digs (clipN z) ++ r) 0 = ((r, 0), clipN z) := by
  unfold numS
  rw [first_digs _ _ (clipN_le z)]
  simp
theorem rdTake_back (zs : List Int) (r : List UInt8) : ∀ j, j ≤ zs.length → rdTake j (numsOf zs ++ r) 0 = ((numsOf (zs.drop j) ++ r, 0), (zs.take j).map clipN)
  | 0, _ => by simp [rdTake]
  | j + 1, h => by
    have hj : j < zs.length := by omega
    have hd : zs.drop j = zs.getD j 0 :: zs.drop (j + 1) := by
      rw [List.drop_eq_getElem_cons hj]; simp [hj]
    have hn : numsOf (zs.drop j) ++ r = digs (clipN (zs.getD j 0)) ++ (numsOf (zs.drop (j + 1)) ++ r) := by
      rw [hd]; simp [numsOf]
    rw [rdTake, rdTake_back zs r j (by omega)]
    simp only [hn, numS_back]
    have ht : (zs.take (j + 1)).map clipN = (zs.take j).map clipN ++ [clipN (zs.getD j 0)] := by
      rw [List.take_succ_eq_append_getElem hj, List.map_append]; simp [hj]
    rw [ht]
theorem clip_ok {z : Int} (h : numOk z = true) : ((clipN z : Nat) : Int) = z := by
  have h := of_decide_eq_true h
  unfold clipN top
  omega
theorem clips_ok {zs : List Int} (h : zs.all numOk = true) : (zs.map clipN).map Int.ofNat = zs := by
  rw [List.map_map]
  have : zs.map (Int.ofNat ∘ clipN) = zs.map id := List.map_congr_left fun z hz => by
    exact clip_ok (List.all_eq_true.1 h z hz)
  rw [this, List.map_id]
theorem sealed_of (b : List UInt8) : S.isSealed (b ++ S.tl (S.sumOf b)) = true ∧ S.opened (b ++ S.tl (S.sumOf b)) = b := by
  have ht : (S.tl (S.sumOf b)).length = 4 := by simp [S.tl]
  have h1 : (b ++ S.tl (S.sumOf b)).length - 4 = b.length := by rw [List.length_append, ht]; omega
  have h2 : S.isSealed (b ++ S.tl (S.sumOf b)) = true := by
    unfold S.isSealed
    rw [h1, List.take_left, List.drop_left, decide_eq_true (by rw [List.length_append, ht]; omega)]
    simp
  refine ⟨h2, ?_⟩
  unfold S.opened
  rw [h2, if_pos rfl, h1, List.take_left]
theorem check_ok {e k : Int} {zs : List Int} {n : Nat} (h : checkS e k zs n = 0) : headOk e k zs.length ∧ zs.all numOk = true ∧ sizeN e k zs n ≤ 8192 := by
  unfold checkS at h
  by_cases hs : soundS e k zs = true
  · rw [if_pos hs] at h
    have h2 := hs
    unfold soundS at h2
    have h3 := (Bool.and_eq_true _ _).mp h2
    refine ⟨of_decide_eq_true h3.1, h3.2, ?_⟩
    by_cases hb : 8192 < sizeN e k zs n
    · rw [if_pos hb] at h; cases h
    · omega
  · rw [if_neg hs] at h; cases h
theorem pack_ok {e k : Int} {zs : List Int} {d : ByteArray} (h : checkS e k zs d.size = 0) : packS e k zs d = bodyS e k zs d ++ S.tl (S.sumOf (bodyS e k zs d)) := by unfold packS; rw [if_pos h]
theorem pack_no {e k : Int} {zs : List Int} {d : ByteArray} (h : checkS e k zs d.size ≠ 0) : packS e k zs d = [] := by unfold packS; rw [if_neg h]
theorem body_read (e k : Int) (zs : List Int) (d : ByteArray) : bodyS e k zs d = digs (clipN e) ++ (digs (clipN k) ++ (digs (clipN (zs.length : Int)) ++ (numsOf zs ++ textB d))) := by
  unfold bodyS
  simp [numsOf]
/-- PACKED, AND PARSED. -/
theorem parse_back (e k : Int) (zs : List Int) (d s : ByteArray) (w : World) (hT : S.Tab w) (hs : s.data.toList = packS e k zs d) (hc : checkS e k zs d.size = 0) (hd : (d.size : Int) ≤ 8192) :
    Calls Tryd.prog 16 #[.string s] w (ParseOk (clipN e) (clipN k) (zs.map clipN) d.data.toList w) := by
  obtain ⟨hh, hz, hsz⟩ := check_ok hc
  rw [pack_ok hc] at hs
  have hsl : (s.size : Int) ≤ 8192 := by
    have h1 : s.size = s.data.toList.length := rfl
    rw [h1, hs, body_size]
    omega
  obtain ⟨q1, q2⟩ := sealed_of (bodyS e k zs d)
  have hcl : clipN (zs.length : Int) = zs.length := by
    have := hh.2.2.2.2
    unfold clipN top
    omega
  have hl64 : ¬ 64 < zs.length := by have := hh.2.2.2.2; omega
  have he : ((clipN e : Nat) : Int) = e := by have := hh.1; have := hh.2.1; unfold clipN top; omega
  have hk : ((clipN k : Nat) : Int) = k := by have := hh.2.2.1; have := hh.2.2.2.1; unfold clipN top; omega
  have hrd := rdTake_back zs (textB d) zs.length (Nat.le_refl _)
  rw [List.drop_length, List.take_length] at hrd
  have htx := textS_back d [] (by omega)
  rw [List.append_nil] at htx
  refine parse_read s hsl w hT (by rw [hs]; exact q1) (bodyS e k zs d) (digs (clipN k) ++ (digs (clipN (zs.length : Int)) ++ (numsOf zs ++ textB d))) (digs (clipN (zs.length : Int)) ++ (numsOf zs ++ textB d)) (numsOf zs ++ textB d) (numsOf zs ++ textB d) (textB d) [] d.data.toList 0 0 0 0 0 0 (clipN e) (clipN k) zs.length zs.length (zs.map clipN) (by rw [hs]; exact q2) (by rw [body_read, numS_back]) (by rw [numS_back]) (by rw [numS_back, hcl]) (by rw [if_neg hl64]) (by rw [if_neg hl64]) ?_ ?_ rfl ?_
  · rw [hrd]; simp [numsOf]
  · exact htx
  · rw [he, hk, clips_ok hz]
    exact hc
/-- A datagram that may be is told by its bytes. -/
theorem pack_inj {e k e' k' : Int} {zs ys : List Int} {d d' : ByteArray} (hc : checkS e k zs d.size = 0) (hc' : checkS e' k' ys d'.size = 0) (hd : (d.size : Int) ≤ 8192) (hd' : (d'.size : Int) ≤ 8192) (h : packS e k zs d = packS e' k' ys d') :
    e = e' ∧ k = k' ∧ zs = ys ∧ d.data.toList = d'.data.toList := by
  rw [pack_ok hc, pack_ok hc'] at h
  have hb : bodyS e k zs d = bodyS e' k' ys d' := by
    have := congrArg S.opened h
    rw [(sealed_of _).2, (sealed_of _).2] at this
    exact this
  obtain ⟨hh, hz, _⟩ := check_ok hc
  obtain ⟨hh', hz', _⟩ := check_ok hc'
  rw [body_read, body_read] at hb
  have he : ((clipN e : Nat) : Int) = e := by have := hh.1; have := hh.2.1; unfold clipN top; omega
  have hk : ((clipN k : Nat) : Int) = k := by have := hh.2.2.1; have := hh.2.2.2.1; unfold clipN top; omega
  have hl : ((clipN (zs.length : Int) : Nat) : Int) = zs.length := by have := hh.2.2.2.2; unfold clipN top; omega
  have he' : ((clipN e' : Nat) : Int) = e' := by have := hh'.1; have := hh'.2.1; unfold clipN top; omega
  have hk' : ((clipN k' : Nat) : Int) = k' := by have := hh'.2.2.1; have := hh'.2.2.2.1; unfold clipN top; omega
  have hl' : ((clipN (ys.length : Int) : Nat) : Int) = ys.length := by have := hh'.2.2.2.2; unfold clipN top; omega
  have a1 := congrArg (fun l => numS l 0) hb
  simp only [numS_back, Prod.mk.injEq, and_true] at a1
  obtain ⟨b1, c1⟩ := a1
  have a2 := congrArg (fun l => numS l 0) b1
  simp only [numS_back, Prod.mk.injEq, and_true] at a2
  obtain ⟨b2, c2⟩ := a2
  have a3 := congrArg (fun l => numS l 0) b2
  simp only [numS_back, Prod.mk.injEq, and_true] at a3
  obtain ⟨b3, c3⟩ := a3
  have hlen : zs.length = ys.length := by omega
  have a4 := congrArg (fun l => rdTake zs.length l 0) b3
  rw [rdTake_back zs _ _ (Nat.le_refl _), rdTake_back ys _ _ (by omega), hlen, List.drop_length, ← hlen, List.drop_length, List.take_length, hlen, List.take_length] at a4
  simp only [Prod.mk.injEq, and_true] at a4
  obtain ⟨b4, c4⟩ := a4
  have b5 : textB d ++ [] = textB d' ++ [] := by simpa [numsOf] using b4
  have a5 := congrArg (fun l => textS l 0) b5
  rw [textS_back d [] (by omega), textS_back d' [] (by omega)] at a5
  simp only [Prod.mk.injEq, true_and] at a5
  refine ⟨by rw [← he, ← he', c1], by rw [← hk, ← hk', c2], ?_, a5⟩
  rw [← clips_ok hz, ← clips_ok hz', c4]
end Go.Proofs.YtghnkpfnpidncaaDoor.G
