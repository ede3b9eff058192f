/- The contract of seq's inTitle. -/
import Derived.Test.YtfapmgecebcfaaaDoorQAny
import Derived.Test.YtfapmgecebcfaaaDoorYRefE
namespace Go.Proofs.YtfapmgecebcfaaaDoor.Q
open Go.RowKit
open Go.Proofs.YtfapmgecebcfaaaDoor.W (OwnI OwnR IntsIn RunesIn wpList_append_ints)

set_option maxRecDepth 100000 in
set_option maxHeartbeats 8000000 in
theorem title_any (base k : Nat) (p : PS) (v : Value) (acts : List Say) (b : UInt8) (w : World) (hE : Env base k p v acts w) : Calls Tryd.prog 28 #[.pointer (some ⟨k, 0, none⟩), .int .u8 (b.toNat : Int), v] w (MPost base k (titleS p b).1 (acts ++ (titleS p b).2) w) := by
  have HE := Lib.hid hE
  obtain ⟨P, hP⟩ : ∃ P, MPost base k (titleS p b).1 (acts ++ (titleS p b).2) w = P := ⟨_, rfl⟩
  rw [hP]
  have HP := Lib.hid hP
  obtain ⟨B, hB⟩ : ∃ B, b.toNat = B := ⟨_, rfl⟩
  have hB256 : B < 256 := by rw [← hB]; exact b.toNat_lt
  have hb' : (B : Int) < 256 := by omega
  rw [hB]
  have HBb := Lib.hid hB
  have HEn := Lib.hid (fun s => enter_any k p s w hE.blk)
  have HOv := Lib.hid (over_any base k p v acts w hE)
  clear hP hE
  by_cases h1 : B = 7
  · have hs : titleS p b = (fresh 0, overS p.text) := by unfold titleS; rw [if_pos (by rw [hB]; exact h1)]
    rw [hs] at HP
    subst h1
    clear hs hB HEn
    go_enter Tryd.func28, Tryd.ntmps28
    go_wp2_with fail
    refine HOv.out.mono ?_
    rintro e w2 ⟨v', rfl, h1, h2, h3⟩
    have HR : Hid (OwnA base v' (acts ++ overS p.text) w2 ∧ PBlk k (fresh 0) w2 ∧ Kept base k w w2) := Lib.hid ⟨h1, h2, h3⟩
    clear h1 h2 h3 HOv
    go_wp2
    rw [← HP.out]
    exact ⟨v', rfl, HR.out⟩
  · have q7 : ((B : Int) == 7) = false := by rw [beq_eq_false_iff_ne]; omega
    by_cases h2 : B = 24 ∨ B = 26
    · have hs : titleS p b = (fresh 0, []) := by unfold titleS; rw [if_neg (by rw [hB]; exact h1), if_pos (by rw [hB]; exact h2)]
      rw [hs, List.append_nil] at HP
      clear hs hB HOv h1
      rcases h2 with rfl | rfl
      all_goals
        go_enter Tryd.func28, Tryd.ntmps28
        go_wp2_with fail
        refine (HEn.out 0).mono ?_
        rintro e w5 ⟨rfl, hb5, hg5⟩
        have HR : Hid (OwnA base v acts w5 ∧ PBlk k (fresh 0) w5 ∧ Kept base k w w5) := Lib.hid ⟨HE.out.own.turned HE.out.blk hg5, hb5, Kept.of_grown hg5 HE.out.bw⟩
        clear hb5 hg5 HEn
        go_wp2
        rw [← HP.out]
        exact ⟨v, rfl, HR.out⟩
    · have q24 : ((B : Int) == 24) = false := by rw [beq_eq_false_iff_ne]; omega
      have q26 : ((B : Int) == 26) = false := by rw [beq_eq_false_iff_ne]; omega
      by_cases h3 : B = 27
      · have hs : titleS p b = ({ p with state := 5 }, []) := by unfold titleS; rw [if_neg (by rw [hB]; exact h1), if_neg (by rw [hB]; exact h2), if_pos (by rw [hB]; exact h3)]
        rw [hs, List.append_nil] at HP
        have c0 := HE.out.blk.state
        have f0 := HE.out.blk.fr 0
        subst h3
        clear hs hB HOv HEn h1 h2
        go_enter Tryd.func28, Tryd.ntmps28
        go_wp2
        rw [← HP.out]
        exact ⟨v, rfl, HE.out.own.setP HE.out.blk 0 _, HE.out.blk.setState 5, (Kept.refl _ _ _).setCell 0 _⟩
      · have hs : titleS p b = (if p.text.length < 200 then { p with text := p.text ++ [b] } else p, []) := by unfold titleS; rw [if_neg (by rw [hB]; exact h1), if_neg (by rw [hB]; exact h2), if_neg (by rw [hB]; exact h3)]
        rw [hs, List.append_nil] at HP
        have q27 : ((B : Int) == 27) = false := by rw [beq_eq_false_iff_ne]; omega
        have c26 := HE.out.blk.text
        have f26 := HE.out.blk.fr 26
        obtain ⟨T, hT⟩ : ∃ T, p.text = T := ⟨_, rfl⟩
        rw [hT] at c26 HP
        obtain ⟨S, hS⟩ : ∃ S : ByteArray, S = ⟨⟨T⟩⟩ := ⟨_, rfl⟩
        have hsz : S.size = T.length := by rw [hS]; rfl
        unfold strV at c26
        rw [← hS] at c26
        obtain ⟨N, hN⟩ : ∃ N, T.length = N := ⟨_, rfl⟩
        rw [hN] at hsz HP
        have HS := Lib.hid hS
        clear hs hT hS HOv HEn h1 h2 h3 hN
        by_cases hlt : N < 200
        · rw [if_pos hlt] at HP
          have hd : decide ((N : Int) < 200) = true := by simp; omega
          have hcv : (convert 59 9 (.slice (some ⟨w.heap.size, 0, none⟩) 1 1)).run Tryd.prog (w.alloc (.cells #[.int .u8 (B : Int)] 5)).drew = .ok (.string ⟨#[UInt8.ofNat B]⟩) (w.alloc (.cells #[.int .u8 (B : Int)] 5)).drew := Y.conv_bytes w.drew [B]
          have hap : S ++ (⟨#[UInt8.ofNat B]⟩ : ByteArray) = ⟨⟨T ++ [b]⟩⟩ := by
            apply bytes_ext
            rw [HS.out, ← HBb.out]
            simp
          have HAp := Lib.hid hap
          have hno : ¬ 9223372036854775807 < N + 1 := by omega
          have hkw : k < w.heap.size := HE.out.blk.lt
          have ca : (w.alloc (.cells #[.int .u8 (B : Int)] 5)).drew.cell? ⟨k, 26, none⟩ = some (.string S) := by
            rw [← c26]; exact ((Below.refl w.heap.size w).alloc (Nat.le_refl _) _).cell (p := ⟨k, 26, none⟩) hkw
          have fa : (w.alloc (.cells #[.int .u8 (B : Int)] 5)).drew.frozen? ⟨k, 26, none⟩ = false := (HE.out.blk.alloc _).fr 26
          clear hap
          go_enter Tryd.func28, Tryd.ntmps28
          go_wp2_with fail
          go_region
          rw [HAp.out]
          have HR : Hid (OwnA base v acts ((w.setCell ⟨k, 26, none⟩ (strV (T ++ [b]))).alloc (.cells #[.int .u8 (B : Int)] 5)).drew ∧ PBlk k { p with text := T ++ [b] } ((w.setCell ⟨k, 26, none⟩ (strV (T ++ [b]))).alloc (.cells #[.int .u8 (B : Int)] 5)).drew ∧ Kept base k w ((w.setCell ⟨k, 26, none⟩ (strV (T ++ [b]))).alloc (.cells #[.int .u8 (B : Int)] 5)).drew) :=
            Lib.hid ⟨OwnA.belowAll ((HE.out.own.setP HE.out.blk 26 (strV (T ++ [b]))).alloc _) ((Below.refl _ _).drew), (HE.out.blk.setText (T ++ [b])).alloc _, ((Kept.refl base k w).setCell 26 (strV (T ++ [b]))).trans (Kept.of_below (((Below.refl _ _).alloc (Nat.le_refl _) _).drew) (by simp; exact HE.out.bw))⟩
          clear hcv HAp hno ca fa c26 f26 hd hB
          go_wp2
          rw [← HP.out]
          exact ⟨v, rfl, HR.out⟩
        · rw [if_neg hlt] at HP
          have hd : decide ((N : Int) < 200) = false := by simp; omega
          go_enter Tryd.func28, Tryd.ntmps28
          go_wp2
          rw [← HP.out]
          exact ⟨v, rfl, HE.out.own, HE.out.blk, Kept.refl _ _ _⟩
end Go.Proofs.YtfapmgecebcfaaaDoor.Q
