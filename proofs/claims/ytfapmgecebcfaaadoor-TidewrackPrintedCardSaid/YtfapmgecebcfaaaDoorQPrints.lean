/- SeqPrints: what may be printed is, each rune once: the walk. -/
import Derived.Test.YtfapmgecebcfaaaDoorMerged0
import Derived.Test.YtfapmgecebcfaaaDoorQIs
import Derived.Test.YtfapmgecebcfaaaDoorMerged5
import Derived.Test.YtfapmgecebcfaaaDoorYRunes
import Derived.Test.YtfapmgecebcfaaaDoorWRArg
namespace Go.Proofs.YtfapmgecebcfaaaDoor.Q
open Go.RowKit
open Go.Proofs.YtfapmgecebcfaaaDoor.W (OwnI OwnR IntsIn RunesIn Arg wpList_append_runes runes_one isRune)
open Go.Proofs.YtfapmgecebcfaaaDoor.Y (Tab toI toI_len encS fixI runS refEnc_any runes_any encode_any)

def plain (l : List Int) : List Int := l.filter fun z => decide (32 ≤ z ∧ z ≠ 127)
theorem plain_ok (l : List Int) : ∀ z ∈ plain l, 32 ≤ z ∧ z ≠ 127 := fun z hz => by
  have := (List.mem_filter.1 hz).2
  simpa using this
theorem plain_snoc (l : List Int) (z : Int) : plain (l ++ [z]) = plain l ++ (if 32 ≤ z ∧ z ≠ 127 then [z] else []) := by
  unfold plain
  rw [List.filter_append]
  by_cases h : 32 ≤ z ∧ z ≠ 127
  · simp [h]
  · rw [if_neg h]
    simp only [List.filter_cons, List.filter_nil, decide_eq_true_eq, if_neg h]
theorem plain_len (l : List Int) : (plain l).length ≤ l.length := List.length_filter_le _ _
def want (l : List Int) : List Say := prints (l.map fixI)
theorem want_snoc (l : List Int) (z : Int) : want (l ++ [z]) = want l ++ [prt (fixI z)] := by
  unfold want; rw [List.map_append, prints_append]; rfl
theorem want_len (l : List Int) : (want l).length = l.length := by unfold want prints; simp
theorem want_fit (l : List Int) : Fit (want l) := by
  intro s hs
  unfold want prints at hs
  obtain ⟨r, hr, rfl⟩ := List.mem_map.1 hs
  obtain ⟨z, _, rfl⟩ := List.mem_map.1 hr
  have := Y.fixI_valid z
  unfold Y.validN at this
  exact ⟨by simp only [prt]; omega, by simp [prt], by simp [prt], by simp [prt]⟩
theorem ownR_keepX {base b2 : Nat} {v q : Value} {l : List Say} {zs : List Int} {w w' : World} (h : OwnR b2 q zs w) (hown : OwnX base v l w) (hgr : w.grownBy w' v.ownBlock) : OwnR b2 q zs w' := World.ownsRow.kept h hgr (by
  cases hv : q.ownBlock with
  | none => exact .inl rfl
  | some k =>
    refine .inr (fun e => ?_)
    obtain ⟨rows, _, h2, _⟩ := hown.rows
    obtain ⟨cs, hcs, _⟩ := own_type h hv
    obtain ⟨ds, hds, _⟩ := own_type h2 e.symm
    exact absurd (types_ne hcs hds) (by decide))
theorem ownX_keepR {base b2 : Nat} {v q : Value} {l : List Say} {zs : List Int} {w w' : World} (h : OwnX base v l w) (hown : OwnR b2 q zs w) (hgr : w.grownBy w' q.ownBlock) : OwnX base v l w' :=
  h.kept q.ownBlock hgr (fun g e cs => by
    obtain ⟨ds, hds, _⟩ := own_type hown e
    exact ⟨fun hc => absurd (types_ne hds hc) (by decide), fun hc => absurd (types_ne hds hc) (by decide)⟩)
theorem take_snocI (zs : List Int) (j : Nat) (h : j < zs.length) : zs.take (j + 1) = zs.take j ++ [zs.getD j 0] := by
  rw [List.take_succ_eq_append_getElem h]; simp [List.getD_eq_getElem?_getD, h]

def bplain (l : List UInt8) : List Int := (l.filter fun b => decide (32 ≤ b.toNat ∧ b.toNat < 127)).map fun b => (b.toNat : Int)
theorem bplain_ok (l : List UInt8) : ∀ z ∈ bplain l, 32 ≤ z ∧ z ≠ 127 := fun z hz => by
  obtain ⟨b, hb, rfl⟩ := List.mem_map.1 hz
  have := (List.mem_filter.1 hb).2
  simp only [decide_eq_true_eq] at this
  omega
theorem bplain_snoc (l : List UInt8) (b : UInt8) : bplain (l ++ [b]) = bplain l ++ (if 32 ≤ b.toNat ∧ b.toNat < 127 then [(b.toNat : Int)] else []) := by
  unfold bplain
  rw [List.filter_append, List.map_append]
  by_cases h : 32 ≤ b.toNat ∧ b.toNat < 127
  · simp [h]
  · rw [if_neg h]
    simp only [List.filter_cons, List.filter_nil, decide_eq_true_eq, if_neg h, List.map_nil]
theorem bplain_len (l : List UInt8) : (bplain l).length ≤ l.length := by unfold bplain; rw [List.length_map]; exact List.length_filter_le _ _
theorem fix_small {B : Nat} (h : B < 127) : fixI (B : Int) = B := Y.fixI_id (by unfold Y.validN; omega)
theorem encS_four (z : Int) : (encS z).length ≤ 4 := by
  unfold Y.encS; rw [List.length_map]
  unfold Y.encN; split
  · simp
  · split
    · simp
    · split <;> simp
theorem encs_four : ∀ l : List Int, (l.flatMap encS).length ≤ 4 * l.length
  | [] => by simp
  | z :: l => by
    rw [List.flatMap_cons, List.length_append, List.length_cons]
    have := encS_four z
    have := encs_four l
    omega
theorem below_kept {base rb : Nat} {w w1 w2 : World} (hb : Below base w w1) (h1 : base ≤ rb) (h2 : base ≤ w1.heap.size) (hK : Kept w1.heap.size rb w1 w2) : Below base w w2 :=
  ⟨hK.os.trans hb.os, hK.tape.trans hb.tape, hK.output.trans hb.output, Nat.le_trans hb.size hK.size, fun i hi => (hK.block i (by omega) (by omega)).trans (hb.block i hi)⟩
theorem grown_kept {rb : Nat} {w1 w2 : World} (hK : Kept w1.heap.size rb w1 w2) : w1.grownBy w2 (some rb) := ⟨hK.os, hK.tape, hK.output, hK.size, fun i hi hn => hK.block i hi (fun e => hn (by rw [e]))⟩
theorem ownX_turned {base : Nat} {v : Value} {l : List Say} {w w' : World} (h : OwnX base v l w) {k : Nat} {p : PS} (hp : PBlk k p w) (hg : w.grownBy w' (some k)) : OwnX base v l w' :=
  h.kept (some k) hg (fun g e cs => by
    obtain rfl : k = g := Option.some.inj e
    exact ⟨fun hc => absurd (types_ne hp hc) (by decide), fun hc => absurd (types_ne hp hc) (by decide)⟩)

set_option maxRecDepth 100000 in
set_option maxHeartbeats 16000000 in
theorem prints_walk (a : Option Addr) (len cap : Nat) (zs : List Int) (s : ByteArray) (hs : (s.size : Int) ≤ 9223372036854775807) (w : World) (hT : Tab w) (hA : Arg a len cap zs w) :
    Calls Tryd.prog 5 #[.slice a len cap, .string s] w fun e w' => e = .returned (.bool true) ∧ Below w.heap.size w w' := by
  have HT := Lib.hid hT
  have HA := Lib.hid hA
  have htop := hA.top
  have hfit := hA.fit
  have hlz := hA.rs.1
  obtain ⟨base, hbase⟩ : ∃ base, w.heap.size = base := ⟨_, rfl⟩
  have HBs := Lib.hid hbase
  have H1 := Lib.hid (awake_any w hT)
  have HLz := Lib.hid hlz
  clear hT hA hbase hlz
  go_enter Tryd.func5, Tryd.ntmps5
  go_wp2_with fail
  refine H1.out.mono ?_
  rintro e w1 ⟨rfl, hb1⟩
  rw [HBs.out] at hb1
  have hbw1 : base ≤ w1.heap.size := by have := hb1.size; rw [HBs.out] at this; exact this
  have HB1 := Lib.hid hb1
  clear hb1 H1
  go_wp2_with fail
  go_loopw [5, 6, 7] (fun x r i wr => ∃ j : Nat, i = .int .i64 (j : Int) ∧ j ≤ len ∧ j ≤ 30 ∧ base ≤ wr.heap.size ∧ Hid (Below base w wr ∧ OwnX base x (want (plain (zs.take j))) wr ∧ OwnR base r (plain (zs.take j)) wr)) (fun _ _ i _ => 30 - (intOf i).toNat)
  case atStart => exact ⟨0, rfl, by omega, by omega, hbw1, Lib.hid ⟨HB1.out, OwnX.nil _ _, OwnR.nil _ _⟩⟩
  case round =>
    rename_i wr
    obtain ⟨j, rfl, hj, hj30, hbw, HF⟩ := hrel
    by_cases hlt : j < len ∧ j < 30
    · obtain ⟨hlt1, hlt2⟩ := hlt
      have hd1 : decide (j < len) = true := by simp; omega
      have hd2 : decide ((j : Int) < 30) = true := by simp; omega
      obtain ⟨hB, hX, hR⟩ := HF.out
      have hjl : j < zs.length := by rw [← HLz.out]; exact hlt1
      obtain ⟨b, off, rfl, hbl, hI⟩ := HA.out.rs.2.resolve_left (by intro e; rw [e] at hjl; simp at hjl)
      have hbb : b < base := by rw [← HBs.out]; exact hbl
      have hc := (hB.cell (p := ⟨b, off + j, none⟩) hbb).trans (hI j hjl)
      have hok := HA.out.ok (zs.getD j 0) (by rw [List.getD_eq_getElem?_getD, List.getElem?_eq_getElem hjl]; exact List.getElem_mem hjl)
      have hts := take_snocI zs j hjl
      obtain ⟨z, hz⟩ : ∃ z, zs.getD j 0 = z := ⟨_, rfl⟩
      rw [hz] at hc hok hts
      obtain ⟨z1, z2⟩ := hok
      have hpl := plain_snoc (zs.take j) z
      rw [← hts] at hpl
      have hpn : (plain (zs.take j)).length ≤ 30 := by have h1 := plain_len (zs.take j); have h2 := List.length_take_le j zs; omega
      have HPn := Lib.hid hpn
      have HB := Lib.hid hB
      have HX := Lib.hid hX
      have HR := Lib.hid hR
      clear hB hX hR hI hz hts hjl hbl HF hpn
      by_cases hk : 32 ≤ z ∧ z ≠ 127
      · rw [if_pos hk] at hpl
        have HPl := Lib.hid hpl
        have q1 : decide (32 ≤ z) = true := by simp; omega
        have q2 : (z != 127) = true := by rw [bne_iff_ne]; exact hk.2
        have HEn := Lib.hid (refEnc_any z wr)
        clear hpl hk
        go_wp2_with fail
        refine HEn.out.mono ?_
        rintro e w2 ⟨⟨sz, rfl, hsz⟩, hb2⟩
        have hszl : (sz.size : Int) ≤ 4 := by
          have h1 : sz.size = (encS z).length := by rw [← hsz]; rfl
          have h2 : (encS z).length ≤ 4 := by
            unfold Y.encS; rw [List.length_map]
            unfold Y.encN; split
            · simp
            · split
              · simp
              · split <;> simp
          omega
        have hRu := runes_any sz (by omega) w2
        unfold Y.AllPost at hRu
        rw [hsz, Y.encS_run] at hRu
        have HRu := Lib.hid hRu
        have HB2 : Hid (Below base w w2) := Lib.hid (HB.out.trans (hb2.mono hbw))
        have HX2 := Lib.hid (HX.out.belowAll hb2)
        have HR2 : Hid (OwnR base _ (plain (zs.take j)) w2) := Lib.hid (HR.out.belowAll hb2)
        have hbw2 : base ≤ w2.heap.size := Nat.le_trans hbw hb2.size
        clear hRu hsz hb2 HEn
        go_wp2_with fail
        refine HRu.out.mono ?_
        rintro e w3 ⟨ar, cr, kr, rfl, hown, hb3, _⟩
        have HB3 : Hid (Below base w w3) := Lib.hid (HB2.out.trans (hb3.mono hbw2))
        have HX3 := Lib.hid (HX2.out.belowAll hb3)
        have HR3 : Hid (OwnR base _ (plain (zs.take j)) w3) := Lib.hid (HR2.out.belowAll hb3)
        have hbw3 : base ≤ w3.heap.size := Nat.le_trans hbw2 hb3.size
        obtain ⟨ar', cr', he, hin, hlk, _⟩ := hown.shape
        obtain ⟨rfl, rfl⟩ : ar = ar' ∧ cr = cr' := by injection he with h1 h2 h3; exact ⟨h1, h3⟩
        obtain ⟨br, orr, rfl, hbr, hIr⟩ := hin.2.resolve_left (by simp [Y.toI])
        have hc0 := hIr 0 (by simp [Y.toI])
        have hg0 : (toI ([fixI z] : List Nat)).getD 0 0 = (fixI z : Int) := rfl
        rw [hg0, Nat.add_zero] at hc0
        have hbrb : base ≤ br := by have := (hlk br (by simp [W.blkOf, Y.toI])).1; omega
        have HOwn := Lib.hid hown
        clear hin hIr hlk he HRu HX2 HR2 hown hb3
        simp only [List.length_cons, List.length_nil, Nat.zero_add]
        go_wp2_with (at_builtin; refine wpList_append_runes rfl _ _ rfl rfl base _ (plain (zs.take j)) (some ⟨w3.heap.size, 0, none⟩) 1 1 [z] rfl rfl (W.OwnR.alloc HR3.out _) (runes_one w3 z _) (fun e => by cases e) (by have := HPn.out; omega) (by simp) (by simp; omega) ?_)
        intro v4 w4 hown4 hgr
        have hX4 : OwnX base _ (want (plain (zs.take j))) w4 := ownX_keepR (HX3.out.alloc _) (W.OwnR.alloc HR3.out _) hgr
        have hB4 : Below base w w4 := (HB3.out.alloc hbw3 _).grown hgr (by simp; omega) (fun q hq => HR3.out.ownBlock q hq)
        have hbw4 : base ≤ w4.heap.size := by have := hgr.size; simp at this; omega
        obtain ⟨dsI, hdI, _⟩ := own_type HOwn.out (g := br) rfl
        have hbe : w4.heap[br]? = w3.heap[br]? := by
          rw [hgr.block br (by simp; omega) (fun e => by
            obtain ⟨ds, hds, _⟩ := own_type HR3.out e.symm
            exact absurd (types_ne hdI hds) (by decide))]
          exact (World.grownBy_alloc w3 _ none).block br hbr (by simp)
        have hc4 : w4.cell? ⟨br, orr, none⟩ = some (.int .i64 (fixI z : Int)) := (World.cell?_of_block (a := ⟨br, orr, none⟩) hbe).trans hc0
        have HR4 : Hid (OwnR base v4 (plain (zs.take (j + 1))) w4) := Lib.hid (by rw [HPl.out]; exact hown4)
        have HX4 := Lib.hid hX4
        have HB4 := Lib.hid hB4
        clear hown4 hgr hX4 hB4 hdI hbe HX3 HR3 HOwn hc0
        go_wp2_with (at_builtin; refine wpList_append_x rfl _ _ rfl rfl base _ (want (plain (zs.take j))) w4.heap.size (prt (fixI z), .slice none 0 0) rfl rfl (HX4.out.alloc _) (x_one w4 (prt (fixI z)) (.slice none 0 0) _) (OwnI.nil _ _) (by rw [want_len]; have := HPn.out; omega) (by simp; omega) ?_)
        intro v5 w5 hown5 hgr5
        have HX5 : Hid (OwnX base v5 (want (plain (zs.take (j + 1)))) w5) := Lib.hid (by rw [HPl.out, want_snoc]; exact hown5)
        have HR5 : Hid (OwnR base v4 (plain (zs.take (j + 1))) w5) := Lib.hid (ownR_keepX (W.OwnR.alloc HR4.out _) (HX4.out.alloc _) hgr5)
        have HB5 : Hid (Below base w w5) := Lib.hid ((HB4.out.alloc hbw4 _).grown hgr5 (by simp; omega) (fun q hq => HX4.out.ownBlock q hq))
        have hbw5 : base ≤ w5.heap.size := by have := hgr5.size; simp at this; omega
        clear hown5 hgr5 HX4 HR4 hc4
        go_wp2
        go_roundw
        case rel => exact ⟨j + 1, by go_num, by omega, by omega, hbw5, Lib.hid ⟨HB5.out, HX5.out, HR5.out⟩⟩
        case measure => simp [intOf]; omega
      · rw [if_neg hk, List.append_nil] at hpl
        have HPl := Lib.hid hpl
        have q : (decide (32 ≤ z) && (z != 127)) = false := by
          by_cases h : 32 ≤ z
          · have : z = 127 := by
              by_cases h2 : z = 127
              · exact h2
              · exact absurd ⟨h, h2⟩ hk
            rw [this]; rfl
          · rw [show decide (32 ≤ z) = false from by simp; omega]; rfl
        have hcase : z < 32 ∨ (32 ≤ z ∧ z = 127) := by
          by_cases h : 32 ≤ z
          · right
            refine ⟨h, ?_⟩
            by_cases h2 : z = 127
            · exact h2
            · exact absurd ⟨h, h2⟩ hk
          · left; omega
        clear hpl hk q
        rcases hcase with q1 | ⟨q1, rfl⟩
        · have q2 : decide (32 ≤ z) = false := by simp; omega
          go_wp2
          go_roundw
          case rel => exact ⟨j + 1, by go_num, by omega, by omega, hbw, Lib.hid ⟨HB.out, by rw [HPl.out]; exact HX.out, by rw [HPl.out]; exact HR.out⟩⟩
          case measure => simp [intOf]; omega
        · go_wp2
          go_roundw
          case rel => exact ⟨j + 1, by go_num, by omega, by omega, hbw, Lib.hid ⟨HB.out, by rw [HPl.out]; exact HX.out, by rw [HPl.out]; exact HR.out⟩⟩
          case measure => simp [intOf]; omega
    · have hq : len = j ∨ (j < len ∧ j = 30) := by omega
      have hcond : decide (j < len) = false ∨ (decide (j < len) = true ∧ decide ((j : Int) < 30) = false) := by
        rcases hq with h | ⟨h1, h2⟩
        · left; simp; omega
        · right; exact ⟨by simp; omega, by simp; omega⟩
      obtain ⟨R0, hR0⟩ : ∃ R0, plain (zs.take j) = R0 := ⟨_, rfl⟩
      rw [hR0] at HF
      have hR0l : R0.length ≤ 30 := by rw [← hR0]; have h1 := plain_len (zs.take j); have h2 := List.length_take_le j zs; omega
      have hR0o : ∀ z ∈ R0, 32 ≤ z ∧ z ≠ 127 := by rw [← hR0]; exact plain_ok _
      have HR0o := Lib.hid hR0o
      clear hR0o hR0 hlt hq
      rcases hcond with hc1 | ⟨hc1, hc2⟩
      all_goals
        go_wp2_with fail
        go_loopw [5, 6, 12] (fun x r i wi => ∃ m : Nat, i = .int .i64 (m : Int) ∧ m ≤ s.size ∧ m ≤ 50 ∧ base ≤ wi.heap.size ∧ Hid (Below base w wi ∧ OwnX base x (want (R0 ++ bplain (s.data.toList.take m))) wi ∧ OwnR base r (R0 ++ bplain (s.data.toList.take m)) wi)) (fun _ _ i _ => 50 - (intOf i).toNat)
        case atStart => exact ⟨0, rfl, by omega, by omega, hbw, Lib.hid ⟨HF.out.1, by simpa [bplain] using HF.out.2.1, by simpa [bplain] using HF.out.2.2⟩⟩
        case round =>
          obtain ⟨m, rfl, hm, hm50, hbwi, HG⟩ := hrel
          obtain ⟨hB, hX, hR⟩ := HG.out
          have hlen : (R0 ++ bplain (s.data.toList.take m)).length ≤ 80 := by
            rw [List.length_append]
            have h1 := bplain_len (s.data.toList.take m)
            have h2 := List.length_take_le m s.data.toList
            omega
          have HLen := Lib.hid hlen
          have HB := Lib.hid hB
          have HX := Lib.hid hX
          have HR := Lib.hid hR
          clear hB hX hR HG hlen
          by_cases hlt : m < s.size ∧ m < 50
          · obtain ⟨hl1, hl2⟩ := hlt
            have hd1 : decide (m < s.size) = true := by simp; omega
            have hd2 : decide ((m : Int) < 50) = true := by simp; omega
            have hts : s.data.toList.take (m + 1) = s.data.toList.take m ++ [s[m]] := by
              rw [List.take_succ_eq_append_getElem (by simpa using hl1)]; rfl
            have hpl := bplain_snoc (s.data.toList.take m) s[m]
            rw [← hts] at hpl
            obtain ⟨B, hBb⟩ : ∃ B, s[m].toNat = B := ⟨_, rfl⟩
            have hB256 : B < 256 := by rw [← hBb]; exact s[m].toNat_lt
            have hB' : (B : Int) < 256 := by omega
            rw [hBb] at hpl
            clear hts
            by_cases hk : 32 ≤ B ∧ B < 127
            · rw [if_pos hk] at hpl
              have hfix := fix_small hk.2
              obtain ⟨hk1, hk2⟩ := hk
              have q1 : decide ((32 : Int) ≤ B) = true := by simp; omega
              have q2 : decide ((B : Int) < 127) = true := by simp; omega
              have HPl := Lib.hid hpl
              have HFx := Lib.hid hfix
              clear hpl hfix
              go_wp2_with (at_builtin; refine wpList_append_runes rfl _ _ rfl rfl base _ (R0 ++ bplain (s.data.toList.take m)) (some ⟨wr.heap.size, 0, none⟩) 1 1 [(B : Int)] rfl rfl (W.OwnR.alloc HR.out _) (runes_one wr B _) (fun e => by cases e) (by have := HLen.out; omega) (by simp) (by simp; omega) ?_)
              intro v4 w4 hown4 hgr
              have HX4 : Hid (OwnX base _ (want (R0 ++ bplain (s.data.toList.take m))) w4) := Lib.hid (ownX_keepR (HX.out.alloc _) (W.OwnR.alloc HR.out _) hgr)
              have HB4 : Hid (Below base w w4) := Lib.hid ((HB.out.alloc hbwi _).grown hgr (by simp; omega) (fun q hq => HR.out.ownBlock q hq))
              have hbw4 : base ≤ w4.heap.size := by have := hgr.size; simp at this; omega
              have HR4 : Hid (OwnR base v4 (R0 ++ bplain (s.data.toList.take (m + 1))) w4) := Lib.hid (by rw [HPl.out]; simpa only [List.append_assoc] using hown4)
              clear hown4 hgr
              go_wp2_with (at_builtin; refine wpList_append_x rfl _ _ rfl rfl base _ (want (R0 ++ bplain (s.data.toList.take m))) w4.heap.size (prt B, .slice none 0 0) rfl rfl (HX4.out.alloc _) (x_one w4 (prt B) (.slice none 0 0) _) (OwnI.nil _ _) (by rw [want_len]; have := HLen.out; omega) (by simp; omega) ?_)
              intro v5 w5 hown5 hgr5
              have HX5 : Hid (OwnX base v5 (want (R0 ++ bplain (s.data.toList.take (m + 1)))) w5) := Lib.hid (by rw [HPl.out, ← List.append_assoc, want_snoc, HFx.out]; simpa only [List.append_assoc] using hown5)
              have HR5 : Hid (OwnR base v4 (R0 ++ bplain (s.data.toList.take (m + 1))) w5) := Lib.hid (ownR_keepX (W.OwnR.alloc HR4.out _) (HX4.out.alloc _) hgr5)
              have HB5 : Hid (Below base w w5) := Lib.hid ((HB4.out.alloc hbw4 _).grown hgr5 (by simp; omega) (fun q hq => HX4.out.ownBlock q hq))
              have hbw5 : base ≤ w5.heap.size := by have := hgr5.size; simp at this; omega
              clear hown5 hgr5 HX4 HR4
              go_wp2
              go_roundw
              case rel => exact ⟨m + 1, by go_num, by omega, by omega, hbw5, Lib.hid ⟨HB5.out, HX5.out, HR5.out⟩⟩
              case measure => simp [intOf]; omega
            · rw [if_neg hk, List.append_nil] at hpl
              have HPl := Lib.hid hpl
              rcases (show B < 32 ∨ (32 ≤ B ∧ 127 ≤ B) by omega) with q1 | ⟨q1, q2⟩
              all_goals
                clear hpl hk
                go_wp2
                go_roundw
                case rel => exact ⟨m + 1, by go_num, by omega, by omega, hbwi, Lib.hid ⟨HB.out, by rw [HPl.out]; exact HX.out, by rw [HPl.out]; exact HR.out⟩⟩
                case measure => simp [intOf]; omega
          · have hq2 : s.size = m ∨ (m < s.size ∧ m = 50) := by omega
            have hcond2 : decide (m < s.size) = false ∨ (decide (m < s.size) = true ∧ decide ((m : Int) < 50) = false) := by
              rcases hq2 with h | ⟨h1, h2⟩
              · left; simp; omega
              · right; exact ⟨by simp; omega, by simp; omega⟩
            obtain ⟨RF, hRF⟩ : ∃ RF, R0 ++ bplain (s.data.toList.take m) = RF := ⟨_, rfl⟩
            rw [hRF] at HX HR HLen
            have hRo : ∀ z ∈ RF, 32 ≤ z ∧ z ≠ 127 := by
              rw [← hRF]
              intro z hz
              rcases List.mem_append.1 hz with hz | hz
              · exact HR0o.out z hz
              · exact bplain_ok _ z hz
            have HRo := Lib.hid hRo
            obtain ⟨ar, cr, rfl, hin, _, _, _, _⟩ := HR.out.shape
            obtain ⟨rb, hrb⟩ : ∃ rb, wr.heap.size = rb := ⟨_, rfl⟩
            obtain ⟨w5, hw5⟩ : ∃ w5, wr.alloc (.cells zeroP 31) = w5 := ⟨_, rfl⟩
            have hb5 : Below rb wr w5 := by rw [← hw5, ← hrb]; exact (Below.refl _ _).alloc (Nat.le_refl _) _
            have hP5 : PBlk rb (fresh 0) w5 := by rw [← hw5, ← hrb]; exact PBlk.zero wr
            have hBB5 : Below base w w5 := HB.out.trans (hb5.mono (by omega))
            have hT5 : Tab w5 := HT.out.belowAll (by rw [HBs.out]; exact hBB5)
            have h0 : 0 < base := by rw [← HBs.out]; exact HT.out.pos
            have hne : 0 ≠ rb := by omega
            have hX5 : OwnX base _ (want RF) w5 := HX.out.belowAll (by rw [hrb]; exact hb5)
            have hI5 : RunesIn ar RF.length RF w5 := hin.belowAll (by rw [hrb]; exact hb5)
            have HEn := Lib.hid (encode_any ar RF.length cr RF w5 hI5)
            have HP5 := Lib.hid hP5
            have HBB5 := Lib.hid hBB5
            have HT5 := Lib.hid hT5
            have HX5 := Lib.hid hX5
            have hbr5 : base ≤ rb := by omega
            unfold zeroP at hw5
            have HW5 := Lib.hid hw5
            have HRb := Lib.hid hrb
            clear hq2 hRF hRo hin hrb hw5 hb5 hP5 hBB5 hT5 hX5 hI5 HX HR HB hlt h0
            rcases hcond2 with hc3 | ⟨hc3, hc4⟩
            all_goals
              go_upto_region 21 with fail
              rw [HW5.out, HRb.out]
              go_wp2_with fail
              refine HEn.out.mono ?_
              rintro e w' ⟨⟨S, rfl, hS⟩, rfl⟩
              have hSz : (S.size : Int) ≤ 1000 := by
                have h1 : S.size = (RF.flatMap encS).length := by rw [← hS]; rfl
                have h2 := encs_four RF
                have h3 := HLen.out
                omega
              have hFd := feed_any rb (fresh 0) S hSz w5 HP5.out (fresh_ok 0 (by decide)) HT5.out hne
              unfold MPost at hFd
              rw [hS, feed_encs RF HRo.out] at hFd
              have HFd := Lib.hid hFd
              clear hFd hS hSz HEn
              go_wp2_with fail
              refine HFd.out.mono ?_
              rintro e w6 ⟨v6, rfl, hO6, _, hK6⟩
              have hX6 : OwnX base _ (want RF) w6 := ownX_turned HX5.out HP5.out (grown_kept hK6)
              have hB6 : Below base w w6 := below_kept HBB5.out hbr5 (by have := HP5.out.lt; omega) hK6
              have HIs := Lib.hid (is_any _ base v6 _ (want RF) w6 hO6 hX6 (by rw [want_len]; have := HLen.out; omega) (want_fit RF))
              have HB6 := Lib.hid hB6
              have hbw6 : base ≤ w6.heap.size := Nat.le_trans (by have := HP5.out.lt; omega) hK6.size
              clear hO6 hK6 hX6 hB6 HFd
              go_wp2_with fail
              refine HIs.out.mono ?_
              rintro e w7 ⟨rfl, hb7⟩
              have HB7 : Hid (Below base w w7) := Lib.hid (HB6.out.trans (hb7.mono hbw6))
              clear hb7 HIs
              go_wp2
              go_ret
              exact ⟨rfl, by rw [HBs.out]; exact HB7.out⟩
end Go.Proofs.YtfapmgecebcfaaaDoor.Q
