/- TidewrackParts: a long message in parts, each as a datagram: those that are parsed make it, and no turned one is. No condition. -/
import Derived.Test.YtghnkpfnpidncaaDoorTMath
import Derived.Test.YtghnkpfnpidncaaDoorPSplit
import Derived.Test.YtghnkpfnpidncaaDoorPMeth
import Derived.Test.YtghnkpfnpidncaaDoorGApart
import Derived.Test.YtghnkpfnpidncaaDoorRelU
namespace Go.Proofs.YtghnkpfnpidncaaDoor.T
open Go.RowKit Go.Proofs.YtghnkpfnpidncaaDoor.P

theorem i64_and6 (n : Int) : bits .and .i64 n 63 = n % 64 := by
  have h127 : (BitVec.ofInt 64 63).toNat = 2 ^ 6 - 1 := by decide
  have key : (BitVec.ofInt 64 n &&& BitVec.ofInt 64 63).toNat = (n % ((2 ^ 64 : Nat) : Int)).toNat % 2 ^ 6 := by
    rw [BitVec.toNat_and, BitVec.toNat_ofInt, h127, Nat.and_two_pow_sub_one_eq_mod]
  show IntKind.i64.wrap ((BitVec.ofInt 64 n &&& BitVec.ofInt 64 63).toNat : Nat) = n % 64
  rw [key, IntKind.wrap_i64]
  omega
theorem bit_any (b : Bool) (w : World) : Calls Tryd.prog 26 #[.bool b] w fun e w' => e = .returned (.int .i64 (if b then 1 else 0)) ∧ w = w' := by
  cases b
  all_goals
    go_enter Tryd.func26, Tryd.ntmps26
    go_wp2
    go_ret
    exact ⟨rfl, rfl⟩
/-- The masks. -/
def Masks (a : Option Addr) (len : Nat) (ms : List Nat) (w : World) : Prop := len = ms.length ∧ (∀ m ∈ ms, m < 4294967296) ∧ (ms = [] ∨ ∃ b off, a = some ⟨b, off, none⟩ ∧ b < w.heap.size ∧ ∀ i, i < ms.length → w.cell? ⟨b, off + i, none⟩ = some (.int .u32 ((ms.getD i 0 : Nat) : Int)))
theorem Masks.below {a : Option Addr} {len : Nat} {ms : List Nat} {w w' : World} (h : Masks a len ms w) (hb : Below w.heap.size w w') : Masks a len ms w' := by
  refine ⟨h.1, h.2.1, h.2.2.imp id ?_⟩
  rintro ⟨b, off, ha, hl, hi⟩
  exact ⟨b, off, ha, Nat.lt_of_lt_of_le hl hb.size, fun i hi' => (hb.cell (p := ⟨b, off + i, none⟩) hl).trans (hi i hi')⟩
/-- A part's bytes, packed; and whether it is turned. -/
def nums3 (i N : Nat) : List Int := [1, (i : Int), (N : Int)]
def pkt (N : Nat) (ss : List ByteArray) (i : Nat) : List UInt8 := G.packS 1 1 (nums3 i N) (ss.getD i ByteArray.empty)
def spot (l : List UInt8) (i : Nat) : Nat := min (7 * i) (8 * l.length)
def width (l : List UInt8) (i : Nat) : Nat := min 32 (8 * l.length - spot l i)
def turned (l : List UInt8) (i m : Nat) : List UInt8 := S.turnL l (spot l i) m (width l i)
def badP (N : Nat) (ss : List ByteArray) (ms : List Nat) (i : Nat) : Bool := decide (i < ms.length) && decide (turned (pkt N ss i) i (ms.getD i 0) ≠ pkt N ss i)
theorem nums_ok (i N : Nat) (hi : i ≤ 1000) (hN : N ≤ 1000) : (nums3 i N).all G.numOk = true := by
  unfold nums3 G.numOk
  simp
  omega
theorem check3 (i N : Nat) (d : ByteArray) (hi : i ≤ 1000) (hN : N ≤ 1000) (hd : d.size ≤ 100) : G.checkS 1 1 (nums3 i N) d.size = 0 := by
  have hs : G.soundS 1 1 (nums3 i N) = true := by
    unfold G.soundS
    rw [nums_ok i N hi hN, decide_eq_true]
    · rfl
    · unfold G.headOk nums3
      simp
  unfold G.checkS
  rw [if_pos hs, if_neg]
  unfold G.sizeN
  have a1 := G.nine 1
  have a2 := G.nine ((nums3 i N).length : Int)
  have a3 := G.nine (d.size : Int)
  have a4 := I.numsOf_le (nums3 i N)
  have a5 : (nums3 i N).length = 3 := rfl
  omega
theorem pkt_len (N : Nat) (ss : List ByteArray) (i : Nat) (hi : i ≤ 1000) (hN : N ≤ 1000) (hd : (ss.getD i ByteArray.empty).size ≤ 100) : (pkt N ss i).length ≤ 8192 ∧ S.isSealed (pkt N ss i) = true := by
  unfold pkt
  have hc := check3 i N _ hi hN hd
  rw [G.pack_ok hc]
  refine ⟨?_, (G.sealed_of _).1⟩
  rw [G.body_size]
  exact (G.check_ok hc).2.2
def PartsOk (gv : Value) (k N : Int) (G : Nat) (d : ByteArray) : Nat → Value → World → Prop
  | 0, u, _ => u = .int .i64 0
  | 1, u, _ => u = .bool false
  | 2, u, _ => u = .bool false
  | 3, u, _ => u = gv
  | 4, u, _ => u = .int .i64 1
  | 5, u, _ => u = gv
  | 6, u, _ => u = .int .i64 k
  | 7, u, _ => u = gv
  | 8, u, _ => u = .int .i64 N
  | 9, u, _ => u = .pointer (some ⟨G, 3, none⟩)
  | 10, u, _ => u = .string d
  | _, _, _ => True
theorem PartsOk.keeps {gv : Value} {k N : Int} {G : Nat} {d : ByteArray} (j : Nat) (u : Value) (w w' : World) (h : PartsOk gv k N G d j u w) : PartsOk gv k N G d j u w' := by
  unfold PartsOk at h ⊢
  split <;> first | exact True.intro | exact h
theorem frame128 (z : Act) (hs : z.tmps.size = 128) (hd : z.defers = []) : ∃ u : Nat → Value, (∀ i, u i = z.tmps.getD i undef) ∧ z = { tmps := #[u 0, u 1, u 2, u 3, u 4, u 5, u 6, u 7, u 8, u 9, u 10, u 11, u 12, u 13, u 14, u 15, u 16, u 17, u 18, u 19, u 20, u 21, u 22, u 23, u 24, u 25, u 26, u 27, u 28, u 29, u 30, u 31, u 32, u 33, u 34, u 35, u 36, u 37, u 38, u 39, u 40, u 41, u 42, u 43, u 44, u 45, u 46, u 47, u 48, u 49, u 50, u 51, u 52, u 53, u 54, u 55, u 56, u 57, u 58, u 59, u 60, u 61, u 62, u 63, u 64, u 65, u 66, u 67, u 68, u 69, u 70, u 71, u 72, u 73, u 74, u 75, u 76, u 77, u 78, u 79, u 80, u 81, u 82, u 83, u 84, u 85, u 86, u 87, u 88, u 89, u 90, u 91, u 92, u 93, u 94, u 95, u 96, u 97, u 98, u 99, u 100, u 101, u 102, u 103, u 104, u 105, u 106, u 107, u 108, u 109, u 110, u 111, u 112, u 113, u 114, u 115, u 116, u 117, u 118, u 119, u 120, u 121, u 122, u 123, u 124, u 125, u 126, u 127], defers := [] } := by
  refine ⟨fun i => z.tmps.getD i undef, fun _ => rfl, ?_⟩
  obtain ⟨tmps, ds⟩ := z
  simp only at hd hs
  subst hd
  have hz : tmps = ((List.range 128).map fun i => tmps.getD i undef).toArray := by
    apply Array.ext
    · simp [hs]
    · intro i h1 h2
      simp [Array.getD_eq_getD_getElem?, h1]
  exact congrArg (fun t => ({ tmps := t, defers := [] } : Act)) hz
/-- What stands between two rounds. -/
def Inv (p N : Nat) (bad : Nat → Bool) (ch : Nat → List UInt8) (w4 : World) (k : Nat) (wr : World) : Prop := ∃ mo, SlotAt p mo (stS N bad ch k).1 (stS N bad ch k).2 wr ∧ (∀ b, mo = some b → p < b) ∧ Below p w4 wr
set_option maxRecDepth 100000 in
set_option maxHeartbeats 4000000 in
theorem parts_walk (s : ByteArray) (size : Int) (a : Option Addr) (tlen cap : Nat) (ms : List Nat) (w : World) (hs : (s.size : Int) ≤ 9223372036854775807) (hT : S.Tab w) (hM : Masks a tlen ms w) (htl : (tlen : Int) ≤ 9223372036854775807) :
    Calls Tryd.prog 8 #[.string s, .int .i64 size, .slice a tlen cap] w fun en w' => en = .returned (.bool true) ∧ Below w.heap.size w w' := by
  have HT := Lib.hid hT
  have HM := Lib.hid hM
  have HS := Lib.hid hs
  have HP0 := Lib.hid (G.parse_sum ⟨#[]⟩ (by decide) w hT (by decide))
  obtain ⟨Z, hZ⟩ : ∃ Z : Nat, bits .and .i64 size 63 = (Z : Int) ∧ (Z : Int) ≤ 63 := ⟨(size % 64).toNat, by rw [i64_and6]; omega, by omega⟩
  obtain ⟨hZ1, hZ2⟩ := hZ
  clear hT hM hs
  go_enter Tryd.func8, Tryd.ntmps8
  go_wp2_with fail
  refine HP0.out.mono ?_
  rintro en w1 ⟨rfl, hb1⟩
  unfold G.gramV
  have HB1 := Lib.hid hb1
  have HA1 : Hid (Below w.heap.size w (w1.alloc (.cells #[.int .i64 0, .int .i64 0, .slice none 0 0, .string ⟨#[]⟩] 26))) := Lib.hid (hb1.alloc hb1.size _)
  obtain ⟨gb, hgb⟩ : ∃ gb, w1.heap.size = gb := ⟨_, rfl⟩
  clear hb1 HP0
  go_wp2_with fail
  refine (I.cut_any s 200 HS.out (by decide) _).mono ?_
  rintro en w1' ⟨⟨t, rfl, hts, _⟩, rfl⟩
  have HSp := Lib.hid (split_any t (3 + Z) (by omega) (w1.alloc (.cells #[.int .i64 0, .int .i64 0, .slice none 0 0, .string ⟨#[]⟩] 26)))
  clear hgb
  go_wp2_with fail
  refine HSp.out.mono ?_
  rintro en w3 ⟨v, ss, rfl, hmap, hrow, hb3⟩
  obtain ⟨a', c', rfl⟩ := I.slice_shape hrow
  obtain ⟨N, hN⟩ : ∃ N, ss.length = N := ⟨_, rfl⟩
  obtain ⟨n, hn⟩ : ∃ n, szN (3 + (Z : Int)) = n := ⟨_, rfl⟩
  rw [hn] at hmap
  rw [hN] at hrow
  rw [hN]
  have hn66 : n ≤ 66 ∧ 1 ≤ n := by rw [← hn]; unfold szN; omega
  have hcnt : N = cntN (bl t).length n := by rw [← hN, ← List.length_map (f := bl), hmap, chunks_len]
  have hNpos : 1 ≤ N := by rw [hcnt]; exact cntN_pos _ _
  have hblt : (bl t).length = t.size := rfl
  have hN1000 : N ≤ 1000 := by rw [hcnt]; have := cntN_le (bl t).length n hn66.2; omega
  have hpc : ∀ i, bl (ss.getD i ByteArray.empty) = if i < N then chunk (bl t) n i else [] := by
    intro i
    by_cases hi : i < N
    · rw [if_pos hi]
      have h1 := congrArg (fun l => l.getD i []) hmap
      rw [chunks_getD (bl t) n i (by rw [← hcnt]; exact hi)] at h1
      rw [← h1]
      have : i < ss.length := by rw [hN]; exact hi
      simp [this]
    · rw [if_neg hi]
      have : ¬ i < ss.length := by rw [hN]; exact hi
      simp [this]
  have hsz : ∀ i, (ss.getD i ByteArray.empty).size ≤ 66 := by
    intro i
    have h1 : (ss.getD i ByteArray.empty).size = (bl (ss.getD i ByteArray.empty)).length := rfl
    rw [h1, hpc i]
    split
    · rw [chunk_len]; omega
    · exact Nat.zero_le _
  obtain ⟨g, hag, hgl, hcell⟩ : ∃ g, a' = some ⟨g, 0, none⟩ ∧ g < w3.heap.size ∧ ∀ i, i < N → w3.cell? ⟨g, i, none⟩ = some (.string (ss.getD i ByteArray.empty)) := by
    rcases hrow.2 with ⟨e, h0⟩ | ⟨g, cap', cur, e, _⟩
    · omega
    · injection e with e1 e2 e3
      refine ⟨g, e1, ?_, fun i hi => ?_⟩
      · subst e1; exact (hrow.lt g rfl).2
      · subst e1
        have hi' : i < ss.length := by rw [hN]; exact hi
        have h1 := World.ownsRow.cells hrow (g := g) rfl i (.string ss[i]) (by simp [hi'])
        have ha : (⟨g, 0, none⟩ : Addr).add i = ⟨g, i, none⟩ := by unfold Addr.add; split <;> simp_all
        rw [ha] at h1
        simp [hi', h1]
  subst hag
  have HB3 := Lib.hid (HA1.out.trans (hb3.mono HA1.out.size))
  obtain ⟨p, hp⟩ : ∃ p, w3.heap.size = p := ⟨_, rfl⟩
  rw [hp] at hgl
  have hslot := zero_slot w3
  rw [hp] at hslot
  obtain ⟨bad, hbad⟩ : ∃ bad, badP N ss ms = bad := ⟨_, rfl⟩
  obtain ⟨ch, hch⟩ : ∃ ch, chunk (bl t) n = ch := ⟨_, rfl⟩
  have HI0 : Hid (Inv p N bad ch w3 0 (w3.alloc (.cells #[.int .i64 0, .int .i64 0, .map none] 55))) := Lib.hid ⟨none, by unfold stS; rw [if_pos (by simp [badN])]; exact hslot, (fun _ e => by cases e), (Below.refl _ _).alloc (by omega) _⟩
  have HPw : Hid (w.heap.size ≤ p) := Lib.hid (by rw [← hp]; exact HB3.out.size)
  have HCell := Lib.hid hcell
  have HPc := Lib.hid hpc
  have HSz := Lib.hid hsz
  have HBad := Lib.hid hbad
  have HCh := Lib.hid hch
  have HCnt := Lib.hid hcnt
  have HNp := Lib.hid hNpos
  have HN6 := Lib.hid hn66
  have HGl0 := Lib.hid hgl
  have HPe := Lib.hid hp
  have HNk : Hid ((N : Int) ≤ 1000) := Lib.hid (by omega)
  have hNI : (N : Int) ≤ 1000 := by omega
  clear hmap hrow hb3 hN hn hn66 hcnt hNpos hN1000 hpc hsz hcell hgl hslot hbad hch HSp hblt
  go_wp2
  go_loopw [11, 43] (fun bd i wr => ∃ k B : Nat, k ≤ N ∧ (B : Int) ≤ k ∧ i = .int .i64 k ∧ bd = .int .i64 B ∧ Hid (B = badN bad k ∧ Inv p N bad ch w3 k wr)) (fun _ i _ => N - (intOf i).toNat)
  case atStart => exact ⟨0, 0, by omega, by omega, rfl, rfl, Lib.hid ⟨by simp [badN], HI0.out⟩⟩
  case round =>
    obtain ⟨k, B, hk, hBk, rfl, rfl, hI⟩ := hrel
    obtain ⟨hBe, mo, hsl, hmo, hbr⟩ := hI.out
    have HSl := Lib.hid hsl
    have HMo := Lib.hid hmo
    have HBr := Lib.hid hbr
    have HBe := Lib.hid hBe
    by_cases hlt : k < N
    · have hc := (hbr.cell (p := ⟨g, k, none⟩) HGl0.out).trans (HCell.out k hlt)
      obtain ⟨pc, hpcE⟩ : ∃ pc, ss.getD k ByteArray.empty = pc := ⟨_, rfl⟩
      rw [hpcE] at hc
      have hps : pc.size ≤ 66 := by rw [← hpcE]; exact HSz.out k
      have hbl : bl pc = ch k := by rw [← hpcE, HPc.out k, if_pos hlt, HCh.out]
      have hpk : pkt N ss k = G.packS 1 1 (nums3 k N) pc := by unfold pkt; rw [hpcE]
      have hck : G.checkS 1 1 (nums3 k N) pc.size = 0 := check3 k N pc (by omega) (by have := HNk.out; omega) (by omega)
      obtain ⟨Bx, hBx⟩ : ∃ Bx, wr.heap.size = Bx := ⟨_, rfl⟩
      obtain ⟨wa, hwa⟩ : ∃ wa, wr.alloc (.cells #[.int .i64 1, .int .i64 k, .int .i64 N] 3) = wa := ⟨_, rfl⟩
      have hba : Below wr.heap.size wr wa := by rw [← hwa]; exact (Below.refl _ _).alloc (Nat.le_refl _) _
      have hna : G.NumsAt (some ⟨Bx, 0, none⟩) 3 (nums3 k N) wa := by
        have hx : wa.heap[Bx]? = some (.cells #[.int .i64 1, .int .i64 k, .int .i64 N] 3 (0, 0)) := by rw [← hwa, ← hBx]; exact World.alloc_heap_new _ _
        refine ⟨rfl, .inr ⟨Bx, 0, rfl, (Array.getElem?_eq_some_iff.1 hx).1, fun i hi => ?_⟩⟩
        have hi3 : i < 3 := hi
        rw [Lib.cell_of_heap hx]
        match i, hi3 with
        | 0, _ => rfl
        | 1, _ => rfl
        | 2, _ => rfl
      have hbp : Below p w3 wa := hbr.trans (hba.mono (Nat.le_trans (Nat.le_of_eq HPe.out.symm) hbr.size))
      have hbw : Below w.heap.size w wa := HB3.out.trans (hbp.mono HPw.out)
      have hTa : S.Tab wa := S.tab_of HT.out hbw
      have HPk := Lib.hid (G.pack_any 1 1 (some ⟨Bx, 0, none⟩) 3 3 pc (nums3 k N) wa hna (by omega) hTa)
      have HSla := Lib.hid (hsl.belowAll hba)
      have HBp := Lib.hid hbp
      have HBl := Lib.hid hbl
      have HPkE := Lib.hid hpk
      have HCk := Lib.hid hck
      have HPs := Lib.hid hps
      have HLt := Lib.hid hlt
      unfold G.gramV at HPk
      clear hba hna hbp hbw hTa hpk hck hbl hps hpcE hsl hmo hbr hI hBe
      have hsplit : ((k : Int) < tlen ∧ bad k = true) ∨ ((k : Int) < tlen ∧ bad k = false) ∨ (tlen ≤ k ∧ bad k = false) := by
        by_cases h : (k : Int) < tlen
        · cases hb : bad k
          · exact .inr (.inl ⟨h, rfl⟩)
          · exact .inl ⟨h, rfl⟩
        · refine .inr (.inr ⟨by omega, ?_⟩)
          rw [← HBad.out]
          unfold badP
          rw [decide_eq_false (by rw [← HM.out.1]; omega)]
          rfl
      go_wp2_with fail
      refine HPk.out.mono ?_
      rintro en w5 ⟨u, rfl, hul, hb5⟩
      have HSl5 := Lib.hid (HSla.out.belowAll hb5)
      have HB5 : Hid (Below p w3 w5) := Lib.hid (HBp.out.trans (hb5.mono (by rw [← HPe.out]; exact HBp.out.size)))
      have HW5 : Hid (Below w.heap.size w w5) := Lib.hid (HB3.out.trans (HB5.out.mono HPw.out))
      have HT5 := Lib.hid (S.tab_of HT.out HW5.out)
      have HUl := Lib.hid (hul.trans HPkE.out.symm)
      have hplen := pkt_len N ss k (by omega) (by have := HNk.out; omega) (by have := HSz.out k; omega)
      have HPl := Lib.hid hplen
      have hus : (u.size : Int) ≤ 8192 := by
        have h1 : u.size = u.data.toList.length := rfl
        rw [h1, HUl.out]
        have := hplen.1
        omega
      have HUs := Lib.hid hus
      clear hb5 hul hplen hus HPk hwa hBx hc
      rcases hsplit with ⟨h, hb⟩ | ⟨h, hb⟩ | ⟨h, hb⟩
      · -- turned
        have hml : k < ms.length := by rw [← HM.out.1]; omega
        obtain ⟨b, off, hab, hbl, hcm⟩ := HM.out.2.2.resolve_left (by intro e; rw [e] at hml; simp at hml)
        have hcm := (HW5.out.cell (p := ⟨b, off + k, none⟩) hbl).trans (hcm k hml)
        obtain ⟨m, hm⟩ : ∃ m, ms.getD k 0 = m := ⟨_, rfl⟩
        have hm32 : m < 4294967296 := by
          rw [← hm]
          have : ms.getD k 0 ∈ ms := by simp [hml]
          exact HM.out.2.1 _ this
        rw [hm] at hcm
        have hsu : (pkt N ss k).length = u.size := by rw [← HUl.out]; rfl
        have hTn := S.turn_any u (7 * k) m (spot (pkt N ss k) k) (width (pkt N ss k) k) (by have := HUs.out; omega) hm32 (by unfold spot; rw [hsu]; omega) (by unfold width spot; rw [hsu] <;> omega) w5
        rw [HUl.out] at hTn
        have htold := S.burst_told (pkt N ss k) (spot (pkt N ss k) k) m (width (pkt N ss k) k) HPl.out.2 (by unfold width spot; omega) (by unfold width; omega)
        have hbe := congrFun HBad.out k
        rw [hb] at hbe
        unfold badP at hbe
        rw [decide_eq_true hml, Bool.true_and, hm] at hbe
        have HTn := Lib.hid hTn
        have HTold := Lib.hid htold
        have HBd := Lib.hid hbe
        have e7 : wrap64 (7 * (k : Int)) = 7 * k := IntWalk.wrap64_in _ ⟨by omega, by omega⟩
        subst hab
        clear hTn htold hbe hm hm32 hsu hml
        go_wp2_with fail
        refine HTn.out.mono ?_
        rintro en w6 ⟨⟨u2, rfl, hul2⟩, hb6⟩
        have hne0 : turned (pkt N ss k) k m ≠ pkt N ss k := of_decide_eq_true HBd.out
        have hns : S.isSealed u2.data.toList = false := by
          rw [hul2, HTold.out]
          exact decide_eq_false hne0
        have hus2 : (u2.size : Int) ≤ 8192 := by
          have h1 : u2.size = u2.data.toList.length := rfl
          rw [h1, hul2, S.turnL_length]
          have := HPl.out.1
          omega
        have HW6 := Lib.hid (G.below_step HW5.out hb6)
        have HPa := Lib.hid (G.parse_sum u2 hus2 w6 (S.tab_of HT5.out hb6) hns)
        have HSl6 := Lib.hid (HSl5.out.belowAll hb6)
        have HB6 : Hid (Below p w3 w6) := Lib.hid (HB5.out.trans (hb6.mono (by rw [← HPe.out]; exact HB5.out.size)))
        have hne : (u2.toList == u.toList) = false := by
          rw [beq_eq_false_iff_ne, ByteArray.toList_eq, ByteArray.toList_eq, hul2, HUl.out]
          exact hne0
        clear hul2 hb6 hns hus2 hne0 hcm
        go_wp2_with fail
        refine HPa.out.mono ?_
        rintro en w7 ⟨rfl, hb7⟩
        unfold G.gramV
        have HSl7 := Lib.hid (HSl6.out.belowAll hb7)
        have HB7 : Hid (Below p w3 w7) := Lib.hid (HB6.out.trans (hb7.mono (by rw [← HPe.out]; exact HB6.out.size)))
        have HI8 : Hid (Inv p N bad ch w3 (k + 1) (w7.alloc (.cells #[.int .i64 0, .int .i64 0, .slice none 0 0, .string ⟨#[]⟩] 26))) := Lib.hid ⟨mo, by rw [st_yes N bad ch hb]; exact HSl7.out.belowAll ((Below.refl _ _).alloc (Nat.le_refl _) _), HMo.out, HB7.out.alloc (by rw [← HPe.out]; exact HB7.out.size) _⟩
        have HBe' : Hid (B + 1 = badN bad (k + 1)) := Lib.hid (by rw [badN_yes bad hb, HBe.out])
        clear hb7 hne hb
        go_wp2
        go_roundw
        case measure => simp [intOf]; omega
        case rel => exact ⟨k + 1, B + 1, by omega, by omega, by go_num, by go_num, Lib.hid ⟨HBe'.out, HI8.out⟩⟩
      all_goals (first
        | (have h3 : tlen ≤ k := h
           have hnlt : decide ((k : Int) < tlen) = false := decide_eq_false (by omega)
           go_wp2_with fail
           obtain ⟨w6, rfl⟩ : ∃ w6, w6 = w5 := ⟨_, rfl⟩
           have HSl6 := HSl5
           have HB6 := HB5
           have HT6 := HT5
           clear hnlt h3)
        | (have hml : k < ms.length := by rw [← HM.out.1]; omega
           obtain ⟨b, off, hab, hbl, hcm⟩ := HM.out.2.2.resolve_left (by intro e; rw [e] at hml; simp at hml)
           have hcm := (HW5.out.cell (p := ⟨b, off + k, none⟩) hbl).trans (hcm k hml)
           obtain ⟨m, hm⟩ : ∃ m, ms.getD k 0 = m := ⟨_, rfl⟩
           have hm32 : m < 4294967296 := by
             rw [← hm]
             have : ms.getD k 0 ∈ ms := by simp [hml]
             exact HM.out.2.1 _ this
           rw [hm] at hcm
           have hsu : (pkt N ss k).length = u.size := by rw [← HUl.out]; rfl
           have hTn := S.turn_any u (7 * k) m (spot (pkt N ss k) k) (width (pkt N ss k) k) (by have := HUs.out; omega) hm32 (by unfold spot; rw [hsu]; omega) (by unfold width spot; rw [hsu] <;> omega) w5
           rw [HUl.out] at hTn
           have htold := S.burst_told (pkt N ss k) (spot (pkt N ss k) k) m (width (pkt N ss k) k) HPl.out.2 (by unfold width spot; omega) (by unfold width; omega)
           have hbe := congrFun HBad.out k
           rw [hb] at hbe
           unfold badP at hbe
           rw [decide_eq_true hml, Bool.true_and, hm] at hbe
           have HTn := Lib.hid hTn
           have HTold := Lib.hid htold
           have HBd := Lib.hid hbe
           have e7 : wrap64 (7 * (k : Int)) = 7 * k := IntWalk.wrap64_in _ ⟨by omega, by omega⟩
           subst hab
           clear hTn htold hbe hm hm32 hsu hml
           go_wp2_with fail
           refine HTn.out.mono ?_
           rintro en w6 ⟨⟨u2, rfl, hul2⟩, hb6⟩
           have heq0 : turned (pkt N ss k) k m = pkt N ss k := by
             have h0 := of_decide_eq_false HBd.out
             exact Decidable.byContradiction fun h1 => h0 h1
           obtain rfl : u = u2 := (G.bytes_eq (by rw [hul2, HUl.out]; exact heq0)).symm
           have HSl6 := Lib.hid (HSl5.out.belowAll hb6)
           have HB6 : Hid (Below p w3 w6) := Lib.hid (HB5.out.trans (hb6.mono (by rw [← HPe.out]; exact HB5.out.size)))
           have HT6 := Lib.hid (S.tab_of HT5.out hb6)
           clear hul2 hb6 heq0 hcm e7
           go_wp2_with fail))
      all_goals
        have HPa := Lib.hid (G.parse_back 1 1 (nums3 k N) pc u w6 HT6.out (HUl.out.trans HPkE.out) HCk.out (by have := HPs.out; omega))
        go_wp2_with fail
        refine HPa.out.mono ?_
        rintro en w7 ⟨a3, c3, d3, rfl, hd3, hn3, hb7⟩
        have hz3 : ((nums3 k N).map I.clipN).map Int.ofNat = nums3 k N := G.clips_ok (nums_ok k N (by omega) (by have := HNk.out; omega))
        rw [hz3] at hn3
        have h1c : I.clipN 1 = 1 := by decide
        have h3l : ((nums3 k N).map I.clipN).length = 3 := rfl
        rw [h1c, h3l]
        rw [h3l] at hn3
        unfold G.gramV
        obtain ⟨G, hG⟩ : ∃ G, w7.heap.size = G := ⟨_, rfl⟩
        obtain ⟨w8, hw8⟩ : ∃ w8, w7.alloc (.cells #[.int .i64 1, .int .i64 1, .slice a3 3 c3, .string d3] 26) = w8 := ⟨_, rfl⟩
        have hb8 : Below w7.heap.size w7 w8 := by rw [← hw8]; exact (Below.refl _ _).alloc (Nat.le_refl _) _
        have hg8 : Go.Proofs.YtghnkpfnpidncaaDoor.G.QBlk 26 G (.int .i64 1) (.int .i64 1) (.slice a3 3 c3) (.string d3) w8 := by rw [← hw8, ← hG]; exact World.alloc_heap_new _ _
        have hn8 := hn3.below hb8
        have HSl8 := Lib.hid ((HSl6.out.belowAll hb7).belowAll hb8)
        have HB7 : Hid (Below p w3 w7) := Lib.hid (HB6.out.trans (hb7.mono (by rw [← HPe.out]; exact HB6.out.size)))
        have HB8 : Hid (Below p w3 w8) := Lib.hid (HB7.out.trans (hb8.mono (by rw [← HPe.out]; exact HB7.out.size)))
        have HNm : Hid ((∀ v, Below w8.heap.size w8 v → Calls Tryd.prog 15 #[.agg #[.int .i64 1, .int .i64 1, .slice a3 3 c3, .string d3], .int .i64 0] v fun en w' => en = .returned (.int .i64 1) ∧ Below v.heap.size v w') ∧ (∀ v, Below w8.heap.size w8 v → Calls Tryd.prog 15 #[.agg #[.int .i64 1, .int .i64 1, .slice a3 3 c3, .string d3], .int .i64 1] v fun en w' => en = .returned (.int .i64 (k : Int)) ∧ Below v.heap.size v w') ∧ (∀ v, Below w8.heap.size w8 v → Calls Tryd.prog 15 #[.agg #[.int .i64 1, .int .i64 1, .slice a3 3 c3, .string d3], .int .i64 2] v fun en w' => en = .returned (.int .i64 (N : Int)) ∧ Below v.heap.size v w')) := Lib.hid ⟨fun v hv => Go.Proofs.YtghnkpfnpidncaaDoor.G.gnum_any 1 1 a3 3 c3 d3 (nums3 k N) 0 v (hn8.below hv).numsIn, fun v hv => Go.Proofs.YtghnkpfnpidncaaDoor.G.gnum_any 1 1 a3 3 c3 d3 (nums3 k N) 1 v (hn8.below hv).numsIn, fun v hv => Go.Proofs.YtghnkpfnpidncaaDoor.G.gnum_any 1 1 a3 3 c3 d3 (nums3 k N) 2 v (hn8.below hv).numsIn⟩
        have HGl : Hid (G < w8.heap.size) := Lib.hid hg8.lt
        have HD3 := Lib.hid hd3
        have c0 := hg8.c0
        have c1 := hg8.c1
        have c2 := hg8.c2
        have c3' := hg8.c3
        clear hd3 hn3 hb7 hz3 h1c h3l hb8 hg8 hn8 HPa
        go_upto_region 20 with fail
        clear hw8 hG
        refine Go.Proofs.YtghnkpfnpidncaaDoor.R.wp_region_tailT 11 (by kernel_rfl) (fun u => Below w8.heap.size w8 u) (fun u v => Below u.heap.size u v) (PartsOk (.agg #[.int .i64 1, .int .i64 1, .slice a3 3 c3, .string d3]) k N G d3) (by rfl) (by kernel_rfl) (by decide) (by kernel_rfl) (by kernel_rfl) (by kernel_rfl) ?hC ?hOk ?hop ?hdone ((Below.refl _ _).drew)
        case hC => exact fun u v h1 h2 => h1.trans (h2.mono h1.size)
        case hOk => exact fun j u w w' h _ => PartsOk.keeps j u w w' h
        case hop =>
          refine ⟨?_, ?_, ?_, ?_, ?_, ?_, ?_, ?_, ?_, ?_, ?_, trivial⟩
          · intro z v hz hag hdep
            refine .inl ⟨rfl, fun K hK => ?_⟩
            have d19 : z.tmps.getD 19 undef = .int .i64 0 := hag.2.2 19 (by kernel_rfl)
            have e19 := d19
            rw [Array.getD_eq_getD_getElem?] at e19
            clear hdep hag c0 c1 c2 c3' hz
            go_simp
            exact hK _ _ (Below.refl _ _) rfl
          · intro z v hz hag hdep
            refine .inl ⟨rfl, fun K hK => ?_⟩
            have d84 : z.tmps.getD 84 undef = .int .i64 0 := hdep { on := 0, ground := .data } (by simp) rfl _ _ rfl rfl
            have e84 := d84
            rw [Array.getD_eq_getD_getElem?] at e84
            clear hdep hag c0 c1 c2 c3' hz
            go_simp
            exact hK _ _ (Below.refl _ _) rfl
          · intro z v hz hag hdep
            refine .inl ⟨rfl, fun K hK => ?_⟩
            have d85 : z.tmps.getD 85 undef = .bool false := hdep { on := 1, ground := .data } (by simp) rfl _ _ rfl rfl
            have e85 := d85
            rw [Array.getD_eq_getD_getElem?] at e85
            clear hdep hag c0 c1 c2 c3' hz
            go_simp
            exact hK _ _ (Below.refl _ _) rfl
          · intro z v hz hag hdep
            have dg : PartsOk (.agg #[.int .i64 1, .int .i64 1, .slice a3 3 c3, .string d3]) k N G d3 2 (z.tmps.getD 86 undef) v := hdep { on := 2, ground := .guard } (by simp) rfl _ _ rfl rfl
            simp only [PartsOk] at dg
            refine .inl ⟨Go.Proofs.YtghnkpfnpidncaaDoor.R.wanted_of (j := 2) rfl rfl rfl dg (by rw [hag.2.1]; show 86 < 128; decide), fun K hK => ?_⟩
            have d18 : z.tmps.getD 18 undef = .pointer (some ⟨G, 0, none⟩) := hag.2.2 18 (by kernel_rfl)
            have e18 := d18
            rw [Array.getD_eq_getD_getElem?] at e18
            have l0 : v.cell? ⟨G, 0, none⟩ = some (.int .i64 1) := (hz.cell (p := ⟨G, 0, none⟩) HGl.out).trans c0
            have l1 : v.cell? ⟨G, 1, none⟩ = some (.int .i64 1) := (hz.cell (p := ⟨G, 1, none⟩) HGl.out).trans c1
            have l2 : v.cell? ⟨G, 2, none⟩ = some (.slice a3 3 c3) := (hz.cell (p := ⟨G, 2, none⟩) HGl.out).trans c2
            have l3 : v.cell? ⟨G, 3, none⟩ = some (.string d3) := (hz.cell (p := ⟨G, 3, none⟩) HGl.out).trans c3'
            clear hdep hag c0 c1 c2 c3' hz
            go_simp
            exact hK _ _ (Below.refl _ _) rfl
          · intro z v hz hag hdep
            have dg : PartsOk (.agg #[.int .i64 1, .int .i64 1, .slice a3 3 c3, .string d3]) k N G d3 2 (z.tmps.getD 86 undef) v := hdep { on := 2, ground := .guard } (by simp) rfl _ _ rfl rfl
            simp only [PartsOk] at dg
            refine .inl ⟨Go.Proofs.YtghnkpfnpidncaaDoor.R.wanted_of (j := 2) rfl rfl rfl dg (by rw [hag.2.1]; show 86 < 128; decide), fun K hK => ?_⟩
            have d87 : z.tmps.getD 87 undef = .agg #[.int .i64 1, .int .i64 1, .slice a3 3 c3, .string d3] := hdep { on := 3, ground := .data } (by simp) rfl _ _ rfl rfl
            have e87 := d87
            rw [Array.getD_eq_getD_getElem?] at e87
            have HPv := Lib.hid (HNm.out.1 v hz)
            clear hdep hag c0 c1 c2 c3' hz
            go_simp
            refine HPv.out.mono ?_
            rintro en w' ⟨rfl, hb⟩
            exact hK _ _ hb rfl
          · intro z v hz hag hdep
            have dg : PartsOk (.agg #[.int .i64 1, .int .i64 1, .slice a3 3 c3, .string d3]) k N G d3 2 (z.tmps.getD 86 undef) v := hdep { on := 2, ground := .guard } (by simp) rfl _ _ rfl rfl
            simp only [PartsOk] at dg
            refine .inl ⟨Go.Proofs.YtghnkpfnpidncaaDoor.R.wanted_of (j := 2) rfl rfl rfl dg (by rw [hag.2.1]; show 86 < 128; decide), fun K hK => ?_⟩
            have d18 : z.tmps.getD 18 undef = .pointer (some ⟨G, 0, none⟩) := hag.2.2 18 (by kernel_rfl)
            have e18 := d18
            rw [Array.getD_eq_getD_getElem?] at e18
            have l0 : v.cell? ⟨G, 0, none⟩ = some (.int .i64 1) := (hz.cell (p := ⟨G, 0, none⟩) HGl.out).trans c0
            have l1 : v.cell? ⟨G, 1, none⟩ = some (.int .i64 1) := (hz.cell (p := ⟨G, 1, none⟩) HGl.out).trans c1
            have l2 : v.cell? ⟨G, 2, none⟩ = some (.slice a3 3 c3) := (hz.cell (p := ⟨G, 2, none⟩) HGl.out).trans c2
            have l3 : v.cell? ⟨G, 3, none⟩ = some (.string d3) := (hz.cell (p := ⟨G, 3, none⟩) HGl.out).trans c3'
            clear hdep hag c0 c1 c2 c3' hz
            go_simp
            exact hK _ _ (Below.refl _ _) rfl
          · intro z v hz hag hdep
            have dg : PartsOk (.agg #[.int .i64 1, .int .i64 1, .slice a3 3 c3, .string d3]) k N G d3 2 (z.tmps.getD 86 undef) v := hdep { on := 2, ground := .guard } (by simp) rfl _ _ rfl rfl
            simp only [PartsOk] at dg
            refine .inl ⟨Go.Proofs.YtghnkpfnpidncaaDoor.R.wanted_of (j := 2) rfl rfl rfl dg (by rw [hag.2.1]; show 86 < 128; decide), fun K hK => ?_⟩
            have d89 : z.tmps.getD 89 undef = .agg #[.int .i64 1, .int .i64 1, .slice a3 3 c3, .string d3] := hdep { on := 5, ground := .data } (by simp) rfl _ _ rfl rfl
            have e89 := d89
            rw [Array.getD_eq_getD_getElem?] at e89
            have HPv := Lib.hid (HNm.out.2.1 v hz)
            clear hdep hag c0 c1 c2 c3' hz
            go_simp
            refine HPv.out.mono ?_
            rintro en w' ⟨rfl, hb⟩
            exact hK _ _ hb rfl
          · intro z v hz hag hdep
            have dg : PartsOk (.agg #[.int .i64 1, .int .i64 1, .slice a3 3 c3, .string d3]) k N G d3 2 (z.tmps.getD 86 undef) v := hdep { on := 2, ground := .guard } (by simp) rfl _ _ rfl rfl
            simp only [PartsOk] at dg
            refine .inl ⟨Go.Proofs.YtghnkpfnpidncaaDoor.R.wanted_of (j := 2) rfl rfl rfl dg (by rw [hag.2.1]; show 86 < 128; decide), fun K hK => ?_⟩
            have d18 : z.tmps.getD 18 undef = .pointer (some ⟨G, 0, none⟩) := hag.2.2 18 (by kernel_rfl)
            have e18 := d18
            rw [Array.getD_eq_getD_getElem?] at e18
            have l0 : v.cell? ⟨G, 0, none⟩ = some (.int .i64 1) := (hz.cell (p := ⟨G, 0, none⟩) HGl.out).trans c0
            have l1 : v.cell? ⟨G, 1, none⟩ = some (.int .i64 1) := (hz.cell (p := ⟨G, 1, none⟩) HGl.out).trans c1
            have l2 : v.cell? ⟨G, 2, none⟩ = some (.slice a3 3 c3) := (hz.cell (p := ⟨G, 2, none⟩) HGl.out).trans c2
            have l3 : v.cell? ⟨G, 3, none⟩ = some (.string d3) := (hz.cell (p := ⟨G, 3, none⟩) HGl.out).trans c3'
            clear hdep hag c0 c1 c2 c3' hz
            go_simp
            exact hK _ _ (Below.refl _ _) rfl
          · intro z v hz hag hdep
            have dg : PartsOk (.agg #[.int .i64 1, .int .i64 1, .slice a3 3 c3, .string d3]) k N G d3 2 (z.tmps.getD 86 undef) v := hdep { on := 2, ground := .guard } (by simp) rfl _ _ rfl rfl
            simp only [PartsOk] at dg
            refine .inl ⟨Go.Proofs.YtghnkpfnpidncaaDoor.R.wanted_of (j := 2) rfl rfl rfl dg (by rw [hag.2.1]; show 86 < 128; decide), fun K hK => ?_⟩
            have d91 : z.tmps.getD 91 undef = .agg #[.int .i64 1, .int .i64 1, .slice a3 3 c3, .string d3] := hdep { on := 7, ground := .data } (by simp) rfl _ _ rfl rfl
            have e91 := d91
            rw [Array.getD_eq_getD_getElem?] at e91
            have HPv := Lib.hid (HNm.out.2.2 v hz)
            clear hdep hag c0 c1 c2 c3' hz
            go_simp
            refine HPv.out.mono ?_
            rintro en w' ⟨rfl, hb⟩
            exact hK _ _ hb rfl
          · intro z v hz hag hdep
            have dg : PartsOk (.agg #[.int .i64 1, .int .i64 1, .slice a3 3 c3, .string d3]) k N G d3 2 (z.tmps.getD 86 undef) v := hdep { on := 2, ground := .guard } (by simp) rfl _ _ rfl rfl
            simp only [PartsOk] at dg
            refine .inl ⟨Go.Proofs.YtghnkpfnpidncaaDoor.R.wanted_of (j := 2) rfl rfl rfl dg (by rw [hag.2.1]; show 86 < 128; decide), fun K hK => ?_⟩
            have d18 : z.tmps.getD 18 undef = .pointer (some ⟨G, 0, none⟩) := hag.2.2 18 (by kernel_rfl)
            have e18 := d18
            rw [Array.getD_eq_getD_getElem?] at e18
            clear hdep hag c0 c1 c2 c3' hz
            go_simp
            exact hK _ _ (Below.refl _ _) rfl
          · intro z v hz hag hdep
            have dg : PartsOk (.agg #[.int .i64 1, .int .i64 1, .slice a3 3 c3, .string d3]) k N G d3 2 (z.tmps.getD 86 undef) v := hdep { on := 2, ground := .guard } (by simp) rfl _ _ rfl rfl
            simp only [PartsOk] at dg
            refine .inl ⟨Go.Proofs.YtghnkpfnpidncaaDoor.R.wanted_of (j := 2) rfl rfl rfl dg (by rw [hag.2.1]; show 86 < 128; decide), fun K hK => ?_⟩
            have d93 : z.tmps.getD 93 undef = .pointer (some ⟨G, 3, none⟩) := hdep { on := 9, ground := .data } (by simp) rfl _ _ rfl rfl
            have e93 := d93
            rw [Array.getD_eq_getD_getElem?] at e93
            have l0 : v.cell? ⟨G, 0, none⟩ = some (.int .i64 1) := (hz.cell (p := ⟨G, 0, none⟩) HGl.out).trans c0
            have l1 : v.cell? ⟨G, 1, none⟩ = some (.int .i64 1) := (hz.cell (p := ⟨G, 1, none⟩) HGl.out).trans c1
            have l2 : v.cell? ⟨G, 2, none⟩ = some (.slice a3 3 c3) := (hz.cell (p := ⟨G, 2, none⟩) HGl.out).trans c2
            have l3 : v.cell? ⟨G, 3, none⟩ = some (.string d3) := (hz.cell (p := ⟨G, 3, none⟩) HGl.out).trans c3'
            clear hdep hag c0 c1 c2 c3' hz
            go_simp
            exact hK _ _ (Below.refl _ _) rfl
        case hdone =>
          intro z v hz hag hok hno
          clear hno
          have d86 : z.tmps.getD 86 undef = .bool false := hok 2 _ 86 (by decide) rfl rfl
          have d88 : z.tmps.getD 88 undef = .int .i64 1 := hok 4 _ 88 (by decide) rfl rfl
          have d90 : z.tmps.getD 90 undef = .int .i64 (k : Int) := hok 6 _ 90 (by decide) rfl rfl
          have d92 : z.tmps.getD 92 undef = .int .i64 (N : Int) := hok 8 _ 92 (by decide) rfl rfl
          have d94 : z.tmps.getD 94 undef = .string d3 := hok 10 _ 94 (by decide) rfl rfl
          obtain ⟨uu, hu, hzz⟩ := Go.Proofs.YtghnkpfnpidncaaDoor.R.agree_frame [84, 85, 86, 87, 88, 89, 90, 91, 92, 93, 94, 95, 96, 97] rfl hag
          have e86 := (hu 86).trans d86
          have e88 := (hu 88).trans d88
          have e90 := (hu 90).trans d90
          have e92 := (hu 92).trans d92
          have e94 := (hu 94).trans d94
          subst hzz
          have HZ := Lib.hid hz
          have HPut := Lib.hid (put_any p mo (stS N bad ch k).1 (stS N bad ch k).2 1 k N d3 v (HSl8.out.belowAll hz))
          have hd3 : bl d3 = ch k := HD3.out.trans HBl.out
          rw [hd3, st_no N bad ch HLt.out (by have := HNk.out; omega) hb] at HPut
          have HB9 : Hid (Below p w3 v) := Lib.hid (HB8.out.trans (hz.mono (by rw [← HPe.out]; exact HB8.out.size)))
          have HBe' : Hid (B = badN bad (k + 1)) := Lib.hid (by rw [badN_no bad hb, HBe.out])
          have HLv : Hid (p ≤ v.heap.size) := Lib.hid (by rw [← HPe.out]; exact HB9.out.size)
          clear d86 d88 d90 d92 d94 hu hag hok hz hd3 c0 c1 c2 c3'
          simp only [List.foldl_cons, List.foldl_nil]
          rw [e86, e88, e90, e92, e94]
          clear e86 e88 e90 e92 e94
          dsimp only [List.drop]
          go_wp2_with fail
          refine HPut.out.mono ?_
          rintro en w9 ⟨rfl, mo', hsl9, hmo9, htn9⟩
          have hpv : p < v.heap.size := (HSl8.out.belowAll HZ.out).lt
          have HI9 : Hid (Inv p N bad ch w3 (k + 1) w9) := Lib.hid ⟨mo', hsl9, fun b e => by
            rcases hmo9 with h1 | ⟨b', h1, h2⟩
            · exact HMo.out b (h1.symm.trans e)
            · rw [h1] at e
              cases e
              omega, HB9.out.trans (htn9.below (Nat.le_refl _) (fun b e => Nat.le_of_lt (HMo.out b e)) HLv.out)⟩
          clear hsl9 hmo9 htn9 hpv
          show _
          go_wp2
          go_roundw
          case measure => simp [intOf]; omega
          case rel => exact ⟨k + 1, B, by omega, by omega, by go_num, rfl, Lib.hid ⟨HBe'.out, HI9.out⟩⟩
    · obtain rfl : k = N := by omega
      have hfit : Fits (stS k bad ch k).2 := fits_st k bad ch (fun i => by rw [← HCh.out, chunk_len]; have := HN6.out; omega) k
      have HWh := Lib.hid (whole_any p mo (stS k bad ch k).1 (stS k bad ch k).2 wr hsl hfit)
      have hfull := full_end k bad ch HNp.out
      rw [← hBe] at hfull
      have hcat : B = 0 → catS (stS k bad ch k).2 = bl t := fun h0 => by
        rw [cat_end k bad ch (by rw [← hBe]; exact h0) HNp.out]
        have h1 := flat_chunks (bl t) n HN6.out.2
        unfold chunks at h1
        rw [← HCnt.out, HCh.out] at h1
        exact h1
      have hlack := lacks_end k bad ch HNp.out
      rw [← hBe] at hlack
      have HFull := Lib.hid hfull
      have HCat := Lib.hid hcat
      have HLack := Lib.hid hlack
      clear hsl hmo hbr hI hBe hfit hfull hcat hlack hlt
      go_wp2_with fail
      refine HWh.out.mono ?_
      rintro en w10 ⟨u, rfl, hu, hb10⟩
      rw [HFull.out]
      have hW10 : Below w.heap.size w w10 := by
        have h1 := HB3.out.trans (HBr.out.mono HPw.out)
        exact h1.trans (hb10.mono h1.size)
      have HW10 := Lib.hid hW10
      have HLk := Lib.hid (lacks_any p mo (stS k bad ch k).1 (stS k bad ch k).2 w10 (HSl.out.belowAll hb10))
      have HU := Lib.hid hu
      clear hu hb10 hW10 HWh
      by_cases h0 : B = 0
      · subst h0
        have hut : u = t := G.bytes_eq (by
          have h1 := HU.out
          unfold wholeS at h1
          rw [HFull.out, decide_eq_true rfl, if_pos rfl, HCat.out rfl] at h1
          exact h1)
        subst hut
        have hd0 : decide ((0 : Nat) = 0) = true := rfl
        rw [hd0]
        have hkp : (0 : Int) < (k : Int) := by have := HNp.out; omega
        have hl0 : (whichS (stS k bad ch k).2 false).length = 0 := by rw [HLack.out]; simp
        have HL0 := Lib.hid hl0
        clear hd0 hl0
        go_wp2_with fail
        refine HLk.out.mono ?_
        rintro en w11 ⟨v, rfl, hrow, hb11⟩
        rw [HL0.out] at hrow
        obtain ⟨av, cv, rfl⟩ := I.slice_shape hrow
        have HB11 := Lib.hid (G.below_step HW10.out hb11)
        clear hrow hb11
        go_wp2_with fail
        refine (bit_any _ _).mono ?_
        rintro en w12 ⟨rfl, rfl⟩
        go_wp2
        go_ret
        exact ⟨rfl, HB11.out⟩
      · have hd0 : decide (B = 0) = false := decide_eq_false h0
        rw [hd0]
        have hB0 : ((B : Int) == 0) = false := by rw [beq_eq_false_iff_ne]; omega
        have hBp : (0 : Int) < (B : Int) := by omega
        obtain ⟨L, hL⟩ : ∃ L, (whichS (stS k bad ch k).2 false).length = L := ⟨_, rfl⟩
        have hlack := HLack.out
        rw [hL] at hlack
        have HLa := Lib.hid hlack
        have HLe := Lib.hid hL
        clear hd0 h0 hlack hL
        go_wp2_with fail
        refine HLk.out.mono ?_
        rintro en w11 ⟨v, rfl, hrow, hb11⟩
        rw [HLe.out] at hrow
        obtain ⟨av, cv, rfl⟩ := I.slice_shape hrow
        have HB11 := Lib.hid (G.below_step HW10.out hb11)
        clear hrow hb11
        go_wp2_with fail
        refine (bit_any _ _).mono ?_
        rintro en w12 ⟨rfl, rfl⟩
        by_cases hBN : B < k
        · have hLB : L = B := by rw [HLa.out, if_pos hBN, Nat.mul_one]
          subst hLB
          go_wp2
          go_ret
          exact ⟨rfl, HB11.out⟩
        · have hL0 : L = 0 := by rw [HLa.out, if_neg hBN, Nat.mul_zero]
          subst hL0
          go_wp2
          go_ret
          exact ⟨rfl, HB11.out⟩
end Go.Proofs.YtghnkpfnpidncaaDoor.T
