/- GlyphBack: runes that are encoded are decoded: the walk. -/
import Derived.Test.YtnjkgbnkfncjkaaDoorYRefE
import Derived.Test.YtnjkgbnkfncjkaaDoorYAwake
import Derived.Test.YtnjkgbnkfncjkaaDoorYHeals
import Derived.Test.YtnjkgbnkfncjkaaDoorWArg
namespace Go.Proofs.YtnjkgbnkfncjkaaDoor.Y
open Go.RowKit
open Go.Proofs.YtnjkgbnkfncjkaaDoor.W (OwnR OwnI RunesIn IntsIn isRune runes_one ints_one wpList_append_ints grownBy_of_below Arg)

def fixZ (z : Int) : Int := (fixI z : Int)
theorem toI_fix (l : List Int) : toI (l.map fixI) = l.map fixZ := by unfold toI fixZ; rw [List.map_map]; rfl
theorem encS_len (z : Int) : (encS z).length ≤ 4 := by unfold encS; rw [List.length_map]; exact encN_len.2
theorem encs_len : ∀ l : List Int, (l.flatMap encS).length ≤ 4 * l.length
  | [] => by simp
  | z :: l => by
    have := encs_len l
    have := encS_len z
    rw [List.flatMap_cons, List.length_append, List.length_cons]
    omega
theorem bytes_ext {s t : ByteArray} (h : s.data.toList = t.data.toList) : s = t := by
  cases s; cases t
  simp only at h
  rw [Array.toList_inj.1 h]

set_option maxRecDepth 100000 in
set_option maxHeartbeats 4000000 in
theorem back_walk (a : Option Addr) (len cap : Nat) (zs : List Int) (w : World) (hT : Tab w) (hA : Arg a len cap zs w) :
    Calls Tryd.prog 5 #[.slice a len cap] w fun e w' => e = .returned (.bool true) ∧ Below w.heap.size w w' := by
  have HT := Lib.hid hT
  obtain ⟨M, hM⟩ : ∃ M : Nat, min (len : Int) 40 = (M : Int) := ⟨min len 40, by omega⟩
  have hml : M ≤ len := by omega
  have hmc : (M : Int) ≤ cap := by have := hA.fit; omega
  have hm40 : (M : Int) ≤ 40 := by omega
  have htop := hA.top
  obtain ⟨ys, hys⟩ : ∃ ys, zs.take M = ys := ⟨_, rfl⟩
  have hylen : ys.length = M := by rw [← hys, List.length_take]; have := hA.rs.1; omega
  have HRn : Hid (RunesIn a M ys w) := Lib.hid (by rw [← hys]; exact hA.rs.take hml)
  have HOk : Hid (∀ i, i < ys.length → isRune (ys.getD i 0)) := Lib.hid (by
    intro i hi
    have hm : ys.getD i 0 ∈ ys := by rw [List.getD_eq_getElem?_getD, List.getElem?_eq_getElem hi]; exact List.getElem_mem hi
    rw [← hys] at hm
    rw [← hys]
    exact hA.ok _ (List.mem_of_mem_take hm))
  have HY := Lib.hid hylen
  have H1 := Lib.hid (awake_any w hT)
  obtain ⟨base, hbase⟩ : ∃ base, w.heap.size = base := ⟨_, rfl⟩
  have HBs := Lib.hid hbase
  rw [hbase]
  clear hT hA hys hylen hbase
  go_enter Tryd.func5, Tryd.ntmps5
  go_wp2_with fail
  refine H1.out.mono ?_
  rintro e w1 ⟨rfl, hb1⟩
  rw [HBs.out] at hb1
  have hle1 := hb1.size
  rw [HBs.out] at hle1
  have HB1 := Lib.hid hb1
  clear hb1 H1
  go_wp2_with fail
  go_loopw [3, 4, 17] (fun s x i wr => ∃ (j : Nat) (S : ByteArray), i = .int .i64 (j : Int) ∧ s = .string S ∧ j ≤ M ∧ (S.size : Int) ≤ 4 * j ∧ base ≤ wr.heap.size ∧ Hid (Below base w wr ∧ S.data.toList = (ys.take j).flatMap encS ∧ OwnI base x ((ys.take j).map fixZ) wr)) (fun _ _ i _ => M - (intOf i).toNat)
  case atStart => exact ⟨0, ⟨#[]⟩, rfl, rfl, by omega, by decide, hle1, Lib.hid ⟨HB1.out, rfl, OwnI.nil _ _⟩⟩
  case round =>
    rename_i wr
    obtain ⟨j, S, rfl, rfl, hj, hS, hbw, HF⟩ := hrel
    by_cases hlt : j < M
    · have hjl : j < ys.length := by rw [HY.out]; exact hlt
      obtain ⟨b, off, rfl, hbl, hI⟩ := HRn.out.2.resolve_left (by intro e; rw [e] at hjl; simp at hjl)
      have hc := (HF.out.1.cell (p := ⟨b, off + j, none⟩) (by rw [← HBs.out]; exact hbl)).trans (hI j hjl)
      obtain ⟨hz1, hz2⟩ := HOk.out j hjl
      have hts := W.take_snoc ys j hjl
      obtain ⟨z, hz⟩ : ∃ z, ys.getD j 0 = z := ⟨_, rfl⟩
      rw [hz] at hc hz1 hz2 hts
      have HTs := Lib.hid hts
      have HEnc := Lib.hid (refEnc_any z wr)
      have hf40 : (ys.take j).length ≤ 40 := by rw [List.length_take]; omega
      clear hz hI hjl hbl hts
      go_wp2_with fail
      refine HEnc.out.mono ?_
      rintro e w2 ⟨⟨u, rfl, hu⟩, hb2⟩
      have hu4 : u.size ≤ 4 := by rw [← ByteArray.size_data, ← Array.length_toList, hu]; exact encS_len z
      have hSu : (S ++ u).size = S.size + u.size := ByteArray.size_append
      have HSu : Hid ((S ++ u).data.toList = (ys.take (j + 1)).flatMap encS) := Lib.hid (by
        rw [HTs.out, List.flatMap_append, List.flatMap_cons, List.flatMap_nil, List.append_nil, ← hu, ← HF.out.2.1]
        simp)
      have HB2 : Hid (Below base w w2) := Lib.hid (HF.out.1.trans (hb2.mono hbw))
      have hbw2 : base ≤ w2.heap.size := Nat.le_trans hbw hb2.size
      have HOwn := Lib.hid (HF.out.2.2.belowAll hb2)
      have HSz := Lib.hid (show ((S ++ u).size : Int) ≤ 4 * (j + 1 : Nat) by rw [hSu]; omega)
      clear hb2 hu hSu HEnc
      obtain ⟨F, hF⟩ : ∃ F, fixZ z = F := ⟨_, rfl⟩
      have HFx := Lib.hid hF
      unfold fixZ fixI at hF
      by_cases h1 : z < 0
      · have f2 : (65533 : Int) = F := by rw [if_pos (.inl h1)] at hF; rw [← hF]; rfl
        subst f2
        clear hF 
        go_wp2_with (at_builtin; refine wpList_append_ints rfl _ _ rfl rfl base _ ((ys.take j).map fixZ) (some ⟨w2.heap.size, 0, none⟩) 1 1 [65533] rfl rfl (HOwn.out.alloc _) (ints_one w2 65533 _) (fun e => by cases e) (by simp; omega) (by simp) (by simp; omega) ?_)
        intro v' w4 hown4 hgr
        have HB4 : Hid (Below base w w4) := Lib.hid ((HB2.out.alloc hbw2 _).grown hgr (by simp; omega) (fun q hq => HOwn.out.ownBlock q hq))
        have hbw4 : base ≤ w4.heap.size := by have := hgr.size; simp at this; omega
        have HOwn4 : Hid (OwnI base v' ((ys.take (j + 1)).map fixZ) w4) := Lib.hid (by rw [HTs.out, List.map_append, List.map_cons, List.map_nil, HFx.out, List.map_take]; exact hown4)
        clear hown4 hgr
        go_wp2
        go_roundw
        case rel => exact ⟨j + 1, S ++ u, by go_num, rfl, by omega, HSz.out, hbw4, Lib.hid ⟨HB4.out, HSu.out, HOwn4.out⟩⟩
        case measure => simp [intOf]; omega
      by_cases h2 : 1114111 < z
      · have f2 : (65533 : Int) = F := by rw [if_pos (.inr (.inl h2))] at hF; rw [← hF]; rfl
        subst f2
        clear hF 
        go_wp2_with (at_builtin; refine wpList_append_ints rfl _ _ rfl rfl base _ ((ys.take j).map fixZ) (some ⟨w2.heap.size, 0, none⟩) 1 1 [65533] rfl rfl (HOwn.out.alloc _) (ints_one w2 65533 _) (fun e => by cases e) (by simp; omega) (by simp) (by simp; omega) ?_)
        intro v' w4 hown4 hgr
        have HB4 : Hid (Below base w w4) := Lib.hid ((HB2.out.alloc hbw2 _).grown hgr (by simp; omega) (fun q hq => HOwn.out.ownBlock q hq))
        have hbw4 : base ≤ w4.heap.size := by have := hgr.size; simp at this; omega
        have HOwn4 : Hid (OwnI base v' ((ys.take (j + 1)).map fixZ) w4) := Lib.hid (by rw [HTs.out, List.map_append, List.map_cons, List.map_nil, HFx.out, List.map_take]; exact hown4)
        clear hown4 hgr
        go_wp2
        go_roundw
        case rel => exact ⟨j + 1, S ++ u, by go_num, rfl, by omega, HSz.out, hbw4, Lib.hid ⟨HB4.out, HSu.out, HOwn4.out⟩⟩
        case measure => simp [intOf]; omega
      by_cases h3 : 55296 ≤ z
      · by_cases h4 : z ≤ 57343
        · have f2 : (65533 : Int) = F := by rw [if_pos (.inr (.inr ⟨h3, h4⟩))] at hF; rw [← hF]; rfl
          subst f2
          clear hF 
          go_wp2_with (at_builtin; refine wpList_append_ints rfl _ _ rfl rfl base _ ((ys.take j).map fixZ) (some ⟨w2.heap.size, 0, none⟩) 1 1 [65533] rfl rfl (HOwn.out.alloc _) (ints_one w2 65533 _) (fun e => by cases e) (by simp; omega) (by simp) (by simp; omega) ?_)
          intro v' w4 hown4 hgr
          have HB4 : Hid (Below base w w4) := Lib.hid ((HB2.out.alloc hbw2 _).grown hgr (by simp; omega) (fun q hq => HOwn.out.ownBlock q hq))
          have hbw4 : base ≤ w4.heap.size := by have := hgr.size; simp at this; omega
          have HOwn4 : Hid (OwnI base v' ((ys.take (j + 1)).map fixZ) w4) := Lib.hid (by rw [HTs.out, List.map_append, List.map_cons, List.map_nil, HFx.out, List.map_take]; exact hown4)
          clear hown4 hgr
          go_wp2
          go_roundw
          case rel => exact ⟨j + 1, S ++ u, by go_num, rfl, by omega, HSz.out, hbw4, Lib.hid ⟨HB4.out, HSu.out, HOwn4.out⟩⟩
          case measure => simp [intOf]; omega
        · have f2 : z = F := by rw [if_neg (by omega)] at hF; omega
          subst f2
          clear hF 
          go_wp2_with (at_builtin; refine wpList_append_ints rfl _ _ rfl rfl base _ ((ys.take j).map fixZ) (some ⟨w2.heap.size, 0, none⟩) 1 1 [z] rfl rfl (HOwn.out.alloc _) (ints_one w2 z _) (fun e => by cases e) (by simp; omega) (by simp) (by simp; omega) ?_)
          intro v' w4 hown4 hgr
          have HB4 : Hid (Below base w w4) := Lib.hid ((HB2.out.alloc hbw2 _).grown hgr (by simp; omega) (fun q hq => HOwn.out.ownBlock q hq))
          have hbw4 : base ≤ w4.heap.size := by have := hgr.size; simp at this; omega
          have HOwn4 : Hid (OwnI base v' ((ys.take (j + 1)).map fixZ) w4) := Lib.hid (by rw [HTs.out, List.map_append, List.map_cons, List.map_nil, HFx.out, List.map_take]; exact hown4)
          clear hown4 hgr
          go_wp2
          go_roundw
          case rel => exact ⟨j + 1, S ++ u, by go_num, rfl, by omega, HSz.out, hbw4, Lib.hid ⟨HB4.out, HSu.out, HOwn4.out⟩⟩
          case measure => simp [intOf]; omega
      · have f2 : z = F := by rw [if_neg (by omega)] at hF; omega
        subst f2
        clear hF 
        go_wp2_with (at_builtin; refine wpList_append_ints rfl _ _ rfl rfl base _ ((ys.take j).map fixZ) (some ⟨w2.heap.size, 0, none⟩) 1 1 [z] rfl rfl (HOwn.out.alloc _) (ints_one w2 z _) (fun e => by cases e) (by simp; omega) (by simp) (by simp; omega) ?_)
        intro v' w4 hown4 hgr
        have HB4 : Hid (Below base w w4) := Lib.hid ((HB2.out.alloc hbw2 _).grown hgr (by simp; omega) (fun q hq => HOwn.out.ownBlock q hq))
        have hbw4 : base ≤ w4.heap.size := by have := hgr.size; simp at this; omega
        have HOwn4 : Hid (OwnI base v' ((ys.take (j + 1)).map fixZ) w4) := Lib.hid (by rw [HTs.out, List.map_append, List.map_cons, List.map_nil, HFx.out, List.map_take]; exact hown4)
        clear hown4 hgr
        go_wp2
        go_roundw
        case rel => exact ⟨j + 1, S ++ u, by go_num, rfl, by omega, HSz.out, hbw4, Lib.hid ⟨HB4.out, HSu.out, HOwn4.out⟩⟩
        case measure => simp [intOf]; omega
    · obtain rfl : j = M := by omega
      have hta : ys.take j = ys := by rw [← HY.out]; exact List.take_length
      obtain ⟨hB, hSd, hown⟩ := HF.out
      rw [hta] at hSd hown
      obtain ⟨a2, c2, rfl, hin, _, _, _, _⟩ := hown.shape
      rw [List.length_map, HY.out] at hin ⊢
      have HB := Lib.hid hB
      have HIn := Lib.hid hin
      have HSd := Lib.hid hSd
      have HRw : Hid (RunesIn a j ys wr) := Lib.hid (HRn.out.belowAll (by rw [HBs.out]; exact hB))
      have HEn := Lib.hid (encode_any a j cap ys wr HRw.out)
      have hS160 : (S.size : Int) ≤ 160 := by omega
      have hdec := decode_any S (by omega) wr (HT.out.belowAll (by rw [HBs.out]; exact hB))
      rw [hSd, encs_dec] at hdec
      have HDec := Lib.hid hdec
      clear hta hB hSd hown hin HF hdec
      go_wp2_with fail
      refine HEn.out.mono ?_
      rintro e w' ⟨⟨E, rfl, hE⟩, rfl⟩
      obtain rfl : E = S := bytes_ext (by rw [hE, HSd.out])
      clear hE HEn
      go_wp2_with fail
      refine HDec.out.mono ?_
      rintro e w3 ⟨a3, c3, rfl, hown, hb3⟩
      obtain ⟨a', c', hv, hin3, _⟩ := toI_shape hown
      injection hv with hv1 _ hv2
      subst hv1 hv2
      have HB3 : Hid (Below base w w3) := Lib.hid (HB.out.trans (hb3.mono hbw))
      have hle3 : base ≤ w3.heap.size := Nat.le_trans hbw hb3.size
      have hlm : (ys.map fixI).length = j := by rw [List.length_map, HY.out]
      rw [hlm] at hin3 ⊢
      have hsame := same_any a3 a2 j c3 j c2 (toI (ys.map fixI)) (ys.map fixZ) (by rw [toI_len, hlm]; omega) (nat_rune (fun r hr => by obtain ⟨z, _, rfl⟩ := List.mem_map.1 hr; exact fixI_valid z)) w3 hin3 (HIn.out.belowAll hb3)
      rw [decide_eq_true (toI_fix ys)] at hsame
      have HSame := Lib.hid hsame
      clear hown hin3 hb3 hsame hlm HDec
      go_wp2_with fail
      refine HSame.out.mono ?_
      rintro e w4 ⟨rfl, hb4⟩
      have HB4 := Lib.hid (HB3.out.trans (hb4.mono hle3))
      clear hb4 HSame
      go_wp2
      go_ret
      exact ⟨rfl, HB4.out⟩
end Go.Proofs.YtnjkgbnkfncjkaaDoor.Y
