/- The contracts of Decoder's End, of Decode and Encode. -/
import Derived.Test.YtfapmgecebcfaaaDoorYRun
import Derived.Laws.Cover4
import Derived.Laws.OwnMore
import Derived.RegionTactic
namespace Go.Proofs.YtfapmgecebcfaaaDoor.Y
open Go.RowKit
open Go.Proofs.YtfapmgecebcfaaaDoor.W (OwnR RunesIn wpList_append_runes runes_one grownBy_of_below)

/-- New runes. -/
def NewRunes (l : List Nat) (w : World) (e : Ending) (w' : World) : Prop := ∃ a c, e = .returned (.slice a l.length c) ∧ OwnR w.heap.size (.slice a l.length c) (toI l) w' ∧ Below w.heap.size w w'
theorem toI_shape {base : Nat} {v : Value} {l : List Nat} {w : World} (h : OwnR base v (toI l) w) : ∃ a c, v = .slice a l.length c ∧ RunesIn a l.length (toI l) w ∧ (a = none → c = 0) := by
  obtain ⟨a, c, hv, h1, _, h2, _⟩ := h.shape
  rw [toI_len] at hv h1
  exact ⟨a, c, hv, h1, h2⟩

set_option maxRecDepth 100000 in
theorem end_any (d : St) (w : World) : Calls Tryd.prog 27 #[decV d] w (NewRunes (endS d) w) := by
  obtain ⟨ld, r, n⟩ := d
  obtain ⟨w1, hw1⟩ : ∃ w1, w.alloc (.cells #[.int .u8 (ld : Int), .int .i32 (r : Int), .int .i64 (n : Int)] 26) = w1 := ⟨_, rfl⟩
  have hb1 : Below w.heap.size w w1 := by rw [← hw1]; exact (Below.refl _ _).alloc (Nat.le_refl _) _
  have hd1 : DBlk w.heap.size (.int .u8 (ld : Int)) (.int .i32 (r : Int)) (.int .i64 (n : Int)) w1 := by rw [← hw1]; exact DBlk.new _ _ _ _
  have hop := open_any ⟨ld, r, n⟩ w1
  unfold decV at hop
  simp only at hop
  obtain ⟨P, hP⟩ : ∃ P, NewRunes (endS ⟨ld, r, n⟩) w = P := ⟨_, rfl⟩
  rw [hP]
  have HPost := Lib.hid hP
  have HOp := Lib.hid hop
  have HB1 := Lib.hid hb1
  have HW1 := Lib.hid hw1
  have c0 := hd1.c0
  have c1 := hd1.c1
  have c2 := hd1.c2
  unfold decV
  simp only
  clear hop hb1 hd1 hw1 hP
  go_enter Tryd.func27, Tryd.ntmps27
  go_upto_region 1 with fail
  rw [HW1.out]
  go_wp2_with fail
  refine HOp.out.mono ?_
  rintro e w2 ⟨rfl, hb2⟩
  have HB2 := Lib.hid (HB1.out.trans (hb2.mono HB1.out.size))
  clear hb2 HOp c0 c1 c2
  by_cases hn : n = 0
  · rw [opB_zero hn]
    have HE : Hid (endS ⟨ld, r, n⟩ = []) := Lib.hid (by unfold endS; rw [if_pos hn])
    clear hn
    go_wp2
    rw [← HPost.out]
    unfold NewRunes
    rw [HE.out]
    exact ⟨none, 0, rfl, OwnR.nil _ _, HB2.out⟩
  · rw [opB_one hn]
    have HE : Hid (endS ⟨ld, r, n⟩ = [bad]) := Lib.hid (by unfold endS; rw [if_neg hn])
    clear hn
    go_wp2
    rw [← HPost.out]
    unfold NewRunes
    rw [HE.out]
    exact ⟨some ⟨w2.heap.size, 0, none⟩, 1, rfl, World.ownsRow_lit w2 #[.int .i32 65533] 1 HB2.out.size (by decide) rfl, HB2.out.alloc HB2.out.size _⟩

set_option maxRecDepth 100000 in
set_option maxHeartbeats 4000000 in
theorem decode_any (s : ByteArray) (hs : (s.size : Int) ≤ 400000) (w : World) (hT : Tab w) : Calls Tryd.prog 19 #[.string s] w (NewRunes (decS s.data.toList) w) := by
  have hrun := run_any .zero zero_sound s hs w hT
  unfold RunPost at hrun
  have hcount := run_count s.data.toList .zero
  have h0 : opn .zero = 0 := rfl
  have hsz : s.data.toList.length = s.size := rfl
  obtain ⟨P, hP⟩ : ∃ P, NewRunes (decS s.data.toList) w = P := ⟨_, rfl⟩
  rw [hP]
  have HPost := Lib.hid hP
  have HE0 : Hid (decS s.data.toList = (runS .zero s.data.toList).2 ++ endS (runS .zero s.data.toList).1) := Lib.hid rfl
  obtain ⟨⟨⟨l, r, n⟩, q⟩, hx⟩ : ∃ x, runS .zero s.data.toList = x := ⟨_, rfl⟩
  rw [hx] at hrun hcount HE0
  have HE : Hid (decS s.data.toList = q ++ endS ⟨l, r, n⟩) := Lib.hid HE0.out
  simp only [decV, St.zero] at hrun
  simp only at hcount
  have hq : (q.length : Int) ≤ 400001 := by omega
  have HRun := Lib.hid hrun
  have HQ := Lib.hid hq
  clear hrun hcount h0 hsz hP hx hq HE0
  go_enter Tryd.func19, Tryd.ntmps19
  go_wp2_with fail
  refine HRun.out.mono ?_
  rintro e w2 ⟨v', rfl, hown, hb2⟩
  have hle2 := hb2.size
  obtain ⟨w3, hw3⟩ : ∃ w3, w2.alloc (.cells #[.int .u8 (l : Int), .int .i32 (r : Int), .int .i64 (n : Int)] 26) = w3 := ⟨_, rfl⟩
  have hb23 : Below w2.heap.size w2 w3 := by rw [← hw3]; exact (Below.refl _ _).alloc (Nat.le_refl _) _
  have hd3 : DBlk w2.heap.size (.int .u8 (l : Int)) (.int .i32 (r : Int)) (.int .i64 (n : Int)) w3 := by rw [← hw3]; exact DBlk.new _ _ _ _
  have HB3 : Hid (Below w.heap.size w w3) := Lib.hid (hb2.trans (hb23.mono hle2))
  have HO3 := Lib.hid (hown.belowAll hb23)
  have hle3 : w.heap.size ≤ w3.heap.size := Nat.le_trans hle2 hb23.size
  have hend := end_any ⟨l, r, n⟩ w3
  unfold decV at hend
  simp only at hend
  have HEnd := Lib.hid hend
  have HW3 := Lib.hid hw3
  clear hb2 hown hb23 hd3 hw3 hend HRun
  go_wp2_with fail
  rw [HW3.out]
  refine HEnd.out.mono ?_
  rintro e w4 ⟨a, c, rfl, hown, hb4⟩
  have HB4 : Hid (Below w.heap.size w w4) := Lib.hid (HB3.out.trans (hb4.mono hle3))
  have hle4 : w.heap.size ≤ w4.heap.size := Nat.le_trans hle3 hb4.size
  have HO4 := Lib.hid (HO3.out.belowAll hb4)
  obtain ⟨a', c', hv, hin, hnil⟩ := toI_shape hown
  injection hv with hv1 _ hv2
  subst hv1 hv2
  have hel : (endS ⟨l, r, n⟩).length ≤ 1 := by unfold endS; split <;> simp
  obtain ⟨E, hE⟩ : ∃ E, endS ⟨l, r, n⟩ = E := ⟨_, rfl⟩
  rw [hE] at hin hel HE ⊢
  have HIn := Lib.hid hin
  have HNil := Lib.hid hnil
  have HEl := Lib.hid hel
  clear hb4 hown hin hnil hel hE HEnd
  go_wp2_with (at_builtin; refine wpList_append_runes rfl _ _ rfl rfl w.heap.size v' (toI q) a E.length c (toI E) rfl rfl HO4.out HIn.out HNil.out (by rw [toI_len]; have := HQ.out; omega) (by rw [toI_len]; have := HEl.out; omega) hle4 ?_)
  intro v'' w5 hown hgr
  have HB5 : Hid (Below w.heap.size w w5) := Lib.hid (HB4.out.grown hgr hle4 (fun k hk => HO4.out.ownBlock k hk))
  rw [← toI_append, ← HE.out] at hown
  obtain ⟨a5, c5, rfl, _, _⟩ := toI_shape hown
  have HO5 := Lib.hid hown
  clear hown hgr
  go_wp2
  rw [← HPost.out]
  exact ⟨a5, c5, rfl, HO5.out, HB5.out⟩

/-! ### Encode -/
theorem utf8_encode (z : Int) : (Utf8.encode z).data.toList = encS z := by
  have hv : Utf8.valid z = decide (¬ (z < 0 ∨ 1114111 < z ∨ (55296 ≤ z ∧ z ≤ 57343))) := by
    unfold Utf8.valid
    rw [Bool.eq_iff_iff]
    simp
    omega
  unfold Utf8.encode encS fixI Utf8.runeError
  rw [hv]
  by_cases h : z < 0 ∨ 1114111 < z ∨ (55296 ≤ z ∧ z ≤ 57343)
  · rw [if_pos h]
    simp only [h, not_true, decide_false]
    rfl
  · rw [if_neg h]
    simp only [h, not_false_eq_true, decide_true, if_true]
    unfold encN
    by_cases h1 : z.toNat < 128
    · rw [if_pos h1, if_pos h1]; rfl
    · rw [if_neg h1, if_neg h1]
      by_cases h2 : z.toNat < 2048
      · rw [if_pos h2, if_pos h2]; rfl
      · rw [if_neg h2, if_neg h2]
        by_cases h3 : z.toNat < 65536
        · rw [if_pos h3, if_pos h3]; rfl
        · rw [if_neg h3, if_neg h3]; rfl
theorem runesBytes_enc (zs : List Int) : (runesBytes zs).data.toList = zs.flatMap encS := by
  unfold runesBytes
  have key : ∀ (l : List Int) (s : ByteArray), (l.foldl (fun r n => r ++ Utf8.encode n) s).data.toList = s.data.toList ++ l.flatMap encS := by
    intro l
    induction l with
    | nil => intro s; simp
    | cons z l ih =>
      intro s
      rw [List.foldl_cons, ih, List.flatMap_cons, ← utf8_encode]
      simp
  rw [key]
  rfl
set_option maxRecDepth 100000 in
theorem encode_any (a : Option Addr) (len cap : Nat) (zs : List Int) (w : World) (h : RunesIn a len zs w) : Calls Tryd.prog 18 #[.slice a len cap] w fun e w' => (∃ s : ByteArray, e = .returned (.string s) ∧ s.data.toList = zs.flatMap encS) ∧ w = w' := by
  obtain ⟨hl, hcase⟩ := h
  cases a with
  | none =>
    have h0 : zs = [] := by
      rcases hcase with h0 | ⟨b, off, e, _⟩
      · exact h0
      · cases e
    have hcv := run_convert_runes_nil (P := Tryd.prog) w 42 9 21 len cap Tryd.underlying42 Tryd.underlying21 Tryd.underlying9
    have H0 := Lib.hid h0
    clear h0 hcase hl
    go_enter Tryd.func18, Tryd.ntmps18
    go_wp2
    go_ret
    exact ⟨⟨_, rfl, by rw [H0.out]; rfl⟩, rfl⟩
  | some ad =>
    have hcv : (convert 42 9 (.slice (some ad) len cap)).run Tryd.prog w = .ok (.string (runesBytes zs)) w := by
      have hh := run_convert_runes (P := Tryd.prog) w 42 9 21 ad len cap zs (by omega) Tryd.underlying42 Tryd.underlying21 Tryd.underlying9 (fun j hj => by
        rcases hcase with h0 | ⟨b, off, e, hb, hI⟩
        · rw [h0] at hj; simp at hj
        · cases e
          have hadd : ((⟨b, off, none⟩ : Addr).add j) = ⟨b, off + j, none⟩ := by unfold Addr.add; split <;> simp_all
          rw [hadd, hI j hj])
      rw [hl, List.take_length] at hh
      rw [hl]
      exact hh
    have HE := Lib.hid (runesBytes_enc zs)
    clear hcase hl
    go_enter Tryd.func18, Tryd.ntmps18
    go_wp2
    go_ret
    exact ⟨⟨_, rfl, HE.out⟩, rfl⟩
end Go.Proofs.YtfapmgecebcfaaaDoor.Y

/- The contract of Cut. -/
namespace Go.Proofs.YtfapmgecebcfaaaDoor.Y
open Go.RowKit
open Go.Proofs.YtfapmgecebcfaaaDoor.W (OwnR OwnI RunesIn IntsIn isRune runes_one grownBy_of_below)

theorem cut_any (s : ByteArray) (n : Nat) (_ : (s.size : Int) ≤ 9223372036854775807) (hn : (n : Int) ≤ 1000) (w : World) :
    Calls Tryd.prog 11 #[.string s, .int .i64 n] w fun e w' => (∃ t : ByteArray, e = .returned (.string t) ∧ (t.size : Int) ≤ n ∧ t.data.toList = s.data.toList.take n) ∧ w = w' := by
  go_enter Tryd.func11, Tryd.ntmps11
  go_wp2
  · have h : n < s.size := by assumption
    go_ret
    refine ⟨⟨_, rfl, ?_, ?_⟩, rfl⟩
    · simp; omega
    · simp
  · have h : ¬ n < s.size := by assumption
    go_ret
    refine ⟨⟨_, rfl, ?_, ?_⟩, rfl⟩
    · omega
    · rw [List.take_of_length_le (by show s.size ≤ n; omega)]
end Go.Proofs.YtfapmgecebcfaaaDoor.Y
