/- TidewrackPrinted: runes between escape sequences are printed in their order, in whatever parts the bytes come: the walk. -/
import Derived.Test.YtfapmgecebcfaaaDoorQPrints
import Derived.Test.YtfapmgecebcfaaaDoorQParts
import Derived.Test.YtfapmgecebcfaaaDoorWRArg
import Derived.Test.YtfapmgecebcfaaaDoorMerged9
import Derived.RegionTactic
import Derived.Deep.RegionWith
import Derived.Deep.DeepCutAuto
import Derived.Deep.CutBlock
import Derived.Lib.MinMax
import Derived.Maps.RangeWalk
import Derived.Deep.QuietTactic
import Derived.BigQuiet
namespace Go.Proofs.YtfapmgecebcfaaaDoor.Q
open Go.RowKit
open Go.Proofs.YtfapmgecebcfaaaDoor.W (OwnI OwnR IntsIn RunesIn Arg ArgI wpList_append_runes runes_one isRune)
open Go.Proofs.YtfapmgecebcfaaaDoor.Y (Tab toI toI_len encS fixI decS encode_any decode_any NewRunes)

theorem int_bounds {n : Int} (h : (Lit.int .i64 n).wf = true) : -9223372036854775808 ≤ n ∧ n ≤ 9223372036854775807 := by
  simp [Lit.wf, IntKind.min, IntKind.max, IntKind.signed, IntKind.bits] at h
  omega
/-- the runes that are printed -/
def shown (l : List Say) : List Int := (l.filter fun s => decide (s.kind = 1)).map fun s => (s.rune : Int)
theorem shown_append (a b : List Say) : shown (a ++ b) = shown a ++ shown b := by unfold shown; rw [List.filter_append, List.map_append]
theorem shown_len (l : List Say) : (shown l).length ≤ l.length := by unfold shown; rw [List.length_map]; exact List.length_filter_le _ _
theorem shown_snoc (l : List Say) (s : Say) : shown (l ++ [s]) = shown l ++ (if s.kind = 1 then [(s.rune : Int)] else []) := by
  rw [shown_append]
  unfold shown
  by_cases h : s.kind = 1
  · simp [h]
  · simp [h]
/-- the orders between the runes -/
def ordAt (k : Nat) : List UInt8 := match k with
  | 0 => []
  | 1 => [27, 91, 51, 49, 109]
  | 2 => [27, 93, 48, 59, 120, 7]
  | 3 => [27, 91, 63, 50, 53, 108]
  | 4 => [27, 40, 66]
  | 5 => [27, 91, 50, 59, 51, 72]
  | _ => [27, 55]
theorem ord_len (k : Nat) : (ordAt k).length ≤ 6 := by
  unfold ordAt; split <;> simp
theorem ord_still (k : Nat) : (feedS (fresh 0) (ordAt k)).1 = fresh 0 ∧ shown (feedS (fresh 0) (ordAt k)).2 = [] := by
  unfold ordAt
  split
  · exact ⟨rfl, rfl⟩
  · exact ⟨rfl, by decide +kernel⟩
  · exact ⟨rfl, by decide +kernel⟩
  · exact ⟨rfl, by decide +kernel⟩
  · exact ⟨rfl, by decide +kernel⟩
  · exact ⟨rfl, by decide +kernel⟩
  · exact ⟨rfl, by decide +kernel⟩
theorem enc_feed (z : Int) (h32 : 32 ≤ z) (h127 : z ≠ 127) : feedS (fresh 0) (encS z) = (fresh 0, [prt (fixI z)]) := by
  rw [feed_ground _ (fresh 0) rfl (encS_ctl h32 h127)]
  show ({ fresh 0 with dec := (Y.runS .zero (encS z)).1 }, prints (Y.runS .zero (encS z)).2) = _
  rw [Y.encS_run]
  rfl
/-- a text so far, and its runes -/
structure Txt (U : List UInt8) (W : List Int) (n : Nat) : Prop where
  still : (feedS (fresh 0) U).1 = fresh 0
  runes : shown (feedS (fresh 0) U).2 = W
  len : U.length ≤ 10 * n
  cnt : W.length ≤ n
theorem Txt.nil : Txt [] [] 0 := ⟨rfl, rfl, by simp, by simp⟩
theorem txt_more {U V : List UInt8} {W X : List Int} (s : (feedS (fresh 0) U).1 = fresh 0) (r : shown (feedS (fresh 0) U).2 = W) (h1 : (feedS (fresh 0) V).1 = fresh 0) (h2 : shown (feedS (fresh 0) V).2 = X) :
    (feedS (fresh 0) (U ++ V)).1 = fresh 0 ∧ shown (feedS (fresh 0) (U ++ V)).2 = W ++ X := by
  rw [feedS_append]
  simp only [s, h1, shown_append, r, h2, and_self]
theorem Txt.still_more {U : List UInt8} {W : List Int} {n : Nat} (h : Txt U W n) : Txt U W (n + 1) := ⟨h.still, h.runes, by have := h.len; omega, by have := h.cnt; omega⟩
theorem Txt.ord {U : List UInt8} {W : List Int} {n : Nat} (h : Txt U W n) (k : Nat) : (feedS (fresh 0) (U ++ ordAt k)).1 = fresh 0 ∧ shown (feedS (fresh 0) (U ++ ordAt k)).2 = W ∧ (U ++ ordAt k).length ≤ 10 * n + 6 := by
  have h1 := txt_more h.still h.runes (ord_still k).1 (ord_still k).2
  rw [List.append_nil] at h1
  have hl := h.len
  have ho := ord_len k
  exact ⟨h1.1, h1.2, by simp; omega⟩
theorem txt_enc {U : List UInt8} {W : List Int} {n : Nat} (s : (feedS (fresh 0) U).1 = fresh 0) (r : shown (feedS (fresh 0) U).2 = W) (hl : U.length ≤ 10 * n + 6) (hc : W.length ≤ n) {z : Int} (h32 : 32 ≤ z) (h127 : z ≠ 127) : Txt (U ++ encS z) (W ++ [(fixI z : Int)]) (n + 1) := by
  have e := enc_feed z h32 h127
  have h2 := txt_more s r (V := encS z) (X := [(fixI z : Int)]) (by rw [e]) (by rw [e]; rfl)
  have h4 := encS_four z
  exact ⟨h2.1, h2.2, by simp; omega, by simp; omega⟩
theorem and16 (n : Int) : bits BinOp.and IntKind.i64 n 65535 = n % 65536 := by
  have key : (BitVec.ofInt 64 n &&& BitVec.ofInt 64 65535).toNat = (n % ((2 ^ 64 : Nat) : Int)).toNat % 2 ^ 16 := by
    rw [BitVec.toNat_and, BitVec.toNat_ofInt, BitVec.toNat_ofInt]
    exact Nat.and_two_pow_sub_one_eq_mod _ 16
  show IntKind.i64.wrap ((BitVec.ofInt 64 n &&& BitVec.ofInt 64 65535).toNat : Nat) = n % 65536
  rw [key]
  have h1 : (n % ((2 ^ 64 : Nat) : Int)).toNat % 2 ^ 16 < 65536 := Nat.mod_lt _ (by decide)
  rw [IntWalk.i64_in _ (by omega)]
  omega
theorem dec97 : decS [97] = [97] := by decide +kernel
def ordV (k : Nat) : Value := .string ⟨⟨ordAt k⟩⟩
def ordArr : Array Value := #[ordV 0, ordV 1, ordV 2, ordV 3, ordV 4, ordV 5, ordV 6]
theorem ord_cells (w : World) (t : TypeId) (k : Nat) (hk : k < 7) : (w.alloc (.cells ordArr t)).cell? ⟨w.heap.size, k, none⟩ = some (ordV k) := by
  rw [World.cell?_alloc_new]
  unfold ordArr
  match k, hk with
  | 0, _ => rfl
  | 1, _ => rfl
  | 2, _ => rfl
  | 3, _ => rfl
  | 4, _ => rfl
  | 5, _ => rfl
  | 6, _ => rfl
/-- where the first loop stands -/
structure Lp (base ob : Nat) (w : World) (tx wt : Value) (n : Nat) (wr : World) : Prop where
  below : Below base w wr
  ords : ∀ k, k < 7 → wr.cell? ⟨ob, k, none⟩ = some (ordV k)
  lo : base ≤ ob
  hi : ob < wr.heap.size
  txt : ∃ (S : ByteArray) (W : List Int), tx = .string S ∧ Txt S.data.toList W n ∧ OwnR (ob + 1) wt W wr

/-- how far, behind the first parts -/
def ck (U : List UInt8) (C : Nat) : Nat → Nat
  | 0 => 0
  | 1 => C
  | _ => U.length
structure Mid (rb gb2 : Nat) (w17 : World) (U : List UInt8) (C k : Nat) (gt : Value) (wr : World) : Prop where
  kept : Kept gb2 rb w17 wr
  p : PBlk rb (feedS (fresh 0) (U.take (ck U C k))).1 wr
  got : OwnR gb2 gt (shown (feedS (fresh 0) (U.take (ck U C k))).2) wr
theorem parts_two (U : List UInt8) (C : Nat) (S1 S2 : ByteArray) (h1 : S1.data.toList = U.take C) (h2 : S2.data.toList = U.drop C) (hC : C ≤ U.length) (k : Nat) (hk : k < 2) :
    ∃ pt : ByteArray, #[Value.string S1, Value.string S2][k]? = some (.string pt) ∧ U.take (ck U C (k + 1)) = U.take (ck U C k) ++ pt.data.toList ∧ pt.data.toList.length ≤ U.length := by
  match k, hk with
  | 0, _ => exact ⟨S1, rfl, by rw [h1]; simp [ck], by rw [h1]; exact List.length_take_le' _ _⟩
  | 1, _ => exact ⟨S2, rfl, by rw [h2]; simp [ck], by rw [h2, List.length_drop]; omega⟩
/-- where the inner loop stands -/
structure Inn (rb gb2 : Nat) (w17 : World) (p : PS) (v gt : Value) (acts : List Say) (X : List Int) (wi : World) : Prop where
  kept : Kept gb2 rb w17 wi
  p : PBlk rb p wi
  own : OwnA gb2 v acts wi
  got : OwnR gb2 gt X wi
  le : gb2 ≤ wi.heap.size
theorem Inn.below {rb gb2 : Nat} {w17 wi w' : World} {p : PS} {v gt : Value} {acts : List Say} {X : List Int} (h : Inn rb gb2 w17 p v gt acts X wi) (hb : Below wi.heap.size wi w') : Inn rb gb2 w17 p v gt acts X w' :=
  ⟨h.kept.trans (Kept.of_below hb h.le), h.p.belowAll hb, h.own.belowAll hb, h.got.belowAll hb, Nat.le_trans h.le hb.size⟩
theorem Inn.more {rb gb2 : Nat} {w17 wi w' : World} {p : PS} {v gt gt' : Value} {acts : List Say} {X Y : List Int} (h : Inn rb gb2 w17 p v gt acts X wi) (hrb : rb < gb2) (ho : OwnR gb2 gt' Y w') (hg : wi.grownBy w' gt.ownBlock) : Inn rb gb2 w17 p v gt' acts Y w' := by
  have hbl : ∀ q, gt.ownBlock = some q → gb2 ≤ q := fun q hq => h.got.ownBlock q hq
  refine ⟨h.kept.trans ⟨hg.os, hg.tape, hg.output, hg.size, fun i hi _ => hg.block i (by have := h.le; omega) (fun e => by have := hbl i e.symm; omega)⟩, (hg.block rb h.p.lt (fun e => by have := hbl rb e.symm; omega)).trans h.p, ?_, ho, Nat.le_trans h.le hg.size⟩
  exact h.own.kept gt.ownBlock hg (fun q e cs => by
    obtain ⟨ds, hds, _⟩ := own_type h.got e
    exact ⟨fun hc => absurd (types_ne hds hc) (by decide), fun hc => absurd (types_ne hds hc) (by decide)⟩)
def TopOk (lo C : Nat) (S S1 S2 : ByteArray) : Nat → Value → World → Prop
  | 0, u, _ => u = .string S
  | 1, u, _ => u = .int .i64 (C : Int)
  | 2, u, _ => u = .string S1
  | 3, u, _ => u = .string S
  | 4, u, _ => u = .int .i64 (C : Int)
  | 5, u, _ => u = .string S2
  | 6, u, w => ∃ g, u = .slice (some ⟨g, 0, none⟩) 2 2 ∧ lo ≤ g ∧ w.heap[g]? = some (.cells #[.string S1, .string S2] 9 (0, 0))
  | 7, u, _ => u = .int .i64 2
  | 8, u, _ => u = .int .i64 0
  | _, _, _ => True
set_option maxRecDepth 100000 in
set_option maxHeartbeats 16000000 in
theorem printed_walk (a1 : Option Addr) (len1 cap1 : Nat) (zs1 : List Int) (a2 : Option Addr) (len2 cap2 : Nat) (zs2 : List Int) (ct : Int) (w : World) (hT : Tab w) (hA1 : Arg a1 len1 cap1 zs1 w) (hA2 : ArgI a2 len2 cap2 zs2 w) (hc1 : -9223372036854775808 ≤ ct) (hc2 : ct ≤ 9223372036854775807) :
    Calls Tryd.prog 9 #[.slice a1 len1 cap1, .slice a2 len2 cap2, .int .i64 ct] w fun e w' => e = .returned (.bool true) ∧ Below w.heap.size w w' := by
  have HT := Lib.hid hT
  have HA1 := Lib.hid hA1
  have HA2 := Lib.hid hA2
  have hl1 : (len1 : Int) ≤ 9223372036854775807 := by have := hA1.fit; have := hA1.top; omega
  have hl2 : (len2 : Int) ≤ 9223372036854775807 := by have := hA2.fit; have := hA2.top; omega
  obtain ⟨base, hbase⟩ : ∃ base, w.heap.size = base := ⟨_, rfl⟩
  have HBs := Lib.hid hbase
  have hd0 := decode_any ⟨#[97]⟩ (by decide) w hT
  rw [show (⟨#[97]⟩ : ByteArray).data.toList = [97] from rfl, dec97] at hd0
  unfold NewRunes at hd0
  simp only [List.length_cons, List.length_nil, Nat.reduceAdd] at hd0
  have H0 := Lib.hid hd0
  have HTB : Hid (∀ w', Below base w w' → Tab w') := Lib.hid (fun w' h => hT.belowAll (by rw [hbase]; exact h))
  clear hT hA1 hA2 hbase hd0
  go_enter Tryd.func9, Tryd.ntmps9
  go_wp2_with fail
  refine H0.out.mono ?_
  rintro e w1 ⟨a0, c0, rfl, -, hb1⟩
  rw [HBs.out] at hb1
  have HB1 := Lib.hid hb1
  obtain ⟨ob, hob⟩ : ∃ ob, w1.heap.size = ob := ⟨_, rfl⟩
  obtain ⟨w2, hw2⟩ : ∃ w2, w1.alloc (.cells #[.string ⟨#[]⟩, .string ⟨#[27, 91, 51, 49, 109]⟩, .string ⟨#[27, 93, 48, 59, 120, 7]⟩, .string ⟨#[27, 91, 63, 50, 53, 108]⟩, .string ⟨#[27, 40, 66]⟩, .string ⟨#[27, 91, 50, 59, 51, 72]⟩, .string ⟨#[27, 55]⟩] 9) = w2 := ⟨_, rfl⟩
  have hbo : base ≤ ob := by rw [← hob, ← HBs.out]; exact hb1.size
  have hlp : Lp base ob w (.string ⟨#[]⟩) (.slice none 0 0) 0 w2 := by
    rw [← hw2, ← hob]
    refine ⟨hb1.alloc (by omega) _, fun k hk => ord_cells _ _ k hk, by omega, by simp, ⟨⟨#[]⟩, [], rfl, Txt.nil, OwnR.nil _ _⟩⟩
  have HLp := Lib.hid hlp
  have HW2 := Lib.hid hw2
  have HOb := Lib.hid hob
  clear hb1 hob hw2 hlp H0
  go_upto_region 4 with fail
  rw [HW2.out, HOb.out]
  go_upto_block 0 with (fail)
  go_cut [8, 9] (fun tx wt wx => Hid (∃ n, n ≤ 30 ∧ Lp base ob w tx wt n wx))
  case first =>
    go_wp2_with fail
    go_loopw [8, 9, 10] (fun tx wt i wr => ∃ j : Nat, i = .int .i64 (j : Int) ∧ j ≤ len1 ∧ j ≤ 30 ∧ Hid (Lp base ob w tx wt j wr)) (fun _ _ i _ => 30 - (intOf i).toNat)
    case atStart => exact ⟨0, rfl, by omega, by omega, HLp⟩
    case round =>
      obtain ⟨j, rfl, hj, hj30, HL⟩ := hrel
      by_cases hlt : j < len1 ∧ j < 30
      · obtain ⟨hlt1, hlt2⟩ := hlt
        have hd1 : decide (j < len1) = true := by simp; omega
        have hd2 : decide ((j : Int) < 30) = true := by simp; omega
        obtain ⟨S, W, rfl, hTx, hOw⟩ := HL.out.txt
        have hSz : (S.size : Int) ≤ 300 := by have h1 := hTx.len; have h2 : S.data.toList.length = S.size := rfl; omega
        have HTx := Lib.hid hTx
        have HOw := Lib.hid hOw
        clear hTx hOw
        go_upto_if 35 with fail
        go_cut [8] (fun tx wx => ∃ S' : ByteArray, tx = .string S' ∧ Hid ((feedS (fresh 0) S'.data.toList).1 = fresh 0 ∧ shown (feedS (fresh 0) S'.data.toList).2 = W ∧ S'.data.toList.length ≤ 10 * j + 6) ∧ wx = wr)
        case first =>
          by_cases h2 : j < len2
          · have hdd : decide (j < len2) = true := by simp; omega
            have hjl : j < zs2.length := by have := HA2.out.rs.1; omega
            obtain ⟨b, off, rfl, hbl, hI⟩ := HA2.out.rs.2.resolve_left (by intro e; rw [e] at hjl; simp at hjl)
            have hbb : b < base := by rw [← HBs.out]; exact hbl
            have hc := (HL.out.below.cell (p := ⟨b, off + j, none⟩) hbb).trans (hI j hjl)
            obtain ⟨y, hy⟩ : ∃ y, zs2.getD j 0 = y := ⟨_, rfl⟩
            rw [hy] at hc
            have hand := and16 y
            obtain ⟨K, hK⟩ : ∃ K : Nat, y % 65536 = (K : Int) := ⟨(y % 65536).toNat, by omega⟩
            rw [hK] at hand
            obtain ⟨K7, hK7⟩ : ∃ K7 : Nat, (K : Int) % 7 = (K7 : Int) := ⟨K % 7, by omega⟩
            have hK7l : K7 < 7 := by omega
            have hord := HL.out.ords K7 (by omega)
            unfold ordV at hord
            obtain ⟨O, hO⟩ : ∃ O : ByteArray, O = ⟨⟨ordAt K7⟩⟩ := ⟨_, rfl⟩
            rw [← hO] at hord
            have hOz : (O.size : Int) ≤ 6 := by rw [hO]; have := ord_len K7; show ((ordAt K7).length : Int) ≤ 6; omega
            have HO := Lib.hid hO
            have hno : ¬ 9223372036854775807 < S.size + O.size := by omega
            clear hI hy hK hbl hjl hO
            go_wp2_with fail
            go_meet
            refine ⟨_, rfl, Lib.hid ?_, rfl⟩
            have hcat : (S ++ O).data.toList = S.data.toList ++ ordAt K7 := by rw [HO.out]; simp
            rw [hcat]
            exact HTx.out.ord K7
          · have hdd : decide (j < len2) = false := by simp; omega
            go_wp2_with fail
            go_meet
            exact ⟨S, rfl, Lib.hid ⟨HTx.out.still, HTx.out.runes, by have := HTx.out.len; omega⟩, rfl⟩
        case rest =>
        obtain ⟨S', rfl, HS', rfl⟩ := hcut
        have hS'z : (S'.size : Int) ≤ 400 := by have h1 := HS'.out.2.2; have h2 : S'.data.toList.length = S'.size := rfl; omega
        have hjl : j < zs1.length := by have := HA1.out.rs.1; omega
        obtain ⟨b, off, rfl, hbl, hI⟩ := HA1.out.rs.2.resolve_left (by intro e; rw [e] at hjl; simp at hjl)
        have hbb : b < base := by rw [← HBs.out]; exact hbl
        have hc := (HL.out.below.cell (p := ⟨b, off + j, none⟩) hbb).trans (hI j hjl)
        have hok := HA1.out.ok (zs1.getD j 0) (by rw [List.getD_eq_getElem?_getD, List.getElem?_eq_getElem hjl]; exact List.getElem_mem hjl)
        obtain ⟨z, hz⟩ : ∃ z, zs1.getD j 0 = z := ⟨_, rfl⟩
        rw [hz] at hc hok
        obtain ⟨z1, z2⟩ := hok
        have hWn : (W.length : Int) ≤ 1000 := by have := HTx.out.cnt; omega
        have HWn := Lib.hid hWn
        clear hI hz hjl hbl hWn
        by_cases hk : 32 ≤ z ∧ z ≠ 127
        · have HK := Lib.hid hk
          have q1 : decide (32 ≤ z) = true := by simp; omega
          have q2 : (z != 127) = true := by rw [bne_iff_ne]; exact hk.2
          have HEn := Lib.hid (fun (v : World) => encode_any (some ⟨v.heap.size, 0, none⟩) 1 1 [z] (v.alloc (.cells #[.int .i32 z] 21)) (runes_one _ _ _))
          clear hk
          go_wp2_with fail
          refine (HEn.out wc).mono ?_
          rintro e w' ⟨⟨E, rfl, hE⟩, rfl⟩
          rw [List.flatMap_cons, List.flatMap_nil, List.append_nil] at hE
          have hEz : (E.size : Int) ≤ 4 := by have h1 : E.size = (encS z).length := by rw [← hE]; rfl
                                              have h2 := encS_four z
                                              omega
          have hno : ¬ 9223372036854775807 < S'.size + E.size := by omega
          obtain ⟨w3, hw3⟩ : ∃ w3, wc.alloc (.cells #[.int .i32 z] 21) = w3 := ⟨_, rfl⟩
          have hb3 : Below wc.heap.size wc w3 := by rw [← hw3]; exact (Below.refl _ _).alloc (Nat.le_refl _) _
          rw [hw3]
          have hc3 := (hb3.cell (p := ⟨b, off + j, none⟩) (show b < wc.heap.size by have := HL.out.lo; have := HL.out.hi; omega)).trans hc
          have HB3 := Lib.hid hb3
          have HE := Lib.hid hE
          clear hw3 hb3 hE
          go_wp2_with fail
          refine (HEn.out w3).mono ?_
          rintro e w' ⟨⟨E2, rfl, hE2⟩, rfl⟩
          rw [List.flatMap_cons, List.flatMap_nil, List.append_nil] at hE2
          obtain ⟨w4, hw4⟩ : ∃ w4, w3.alloc (.cells #[.int .i32 z] 21) = w4 := ⟨_, rfl⟩
          have hb4 : Below wc.heap.size wc w4 := by rw [← hw4]; exact HB3.out.alloc HB3.out.size _
          rw [hw4]
          have hbw : base ≤ wc.heap.size := by have := HL.out.lo; have := HL.out.hi; omega
          have hE2z : (E2.size : Int) ≤ 400000 := by have h1 : E2.size = (encS z).length := by rw [← hE2]; rfl
                                                     have h2 := encS_four z
                                                     omega
          have hdc := decode_any E2 hE2z w4 (HTB.out w4 (HL.out.below.trans (hb4.mono hbw)))
          have hds : decS (encS z) = [fixI z] := by
            have h := Y.encs_dec [z]
            rw [List.flatMap_cons, List.flatMap_nil, List.append_nil] at h
            exact h
          rw [hE2, hds] at hdc
          unfold NewRunes at hdc
          simp only [List.length_cons, List.length_nil, Nat.zero_add] at hdc
          have HDc := Lib.hid hdc
          have HB4 := Lib.hid hb4
          clear hw4 hb4 hE2 hdc hds hE2z HEn HB3
          go_wp2_with fail
          refine HDc.out.mono ?_
          rintro e w5 ⟨a5, c5, rfl, hO5, hb5⟩
          have hb45 : Below wc.heap.size wc w5 := HB4.out.trans (hb5.mono HB4.out.size)
          have hin : RunesIn a5 1 [(fixI z : Int)] w5 ∧ (a5 = none → c5 = 0) := by
            obtain ⟨a6, c6, he, h1, h2⟩ := Y.toI_shape hO5
            cases he
            exact ⟨h1, h2⟩
          have HIn := Lib.hid hin
          have HB5 := Lib.hid hb45
          have HW5 : Hid (OwnR (ob + 1) u9 W w5) := Lib.hid (HOw.out.belowAll hb45)
          clear hO5 hb5 hb45 hin HDc HB4 hbw
          go_wp2_with (at_builtin; refine wpList_append_runes rfl _ _ rfl rfl (ob + 1) _ W a5 1 c5 [(fixI z : Int)] rfl rfl HW5.out HIn.out.1 HIn.out.2 (by have := HWn.out; omega) (by simp) (by have := HL.out.hi; have := HB5.out.size; omega) ?_)
          intro v6 w6 hO6 hg6
          have HL6 : Hid (Lp base ob w (.string (S' ++ E)) v6 (j + 1) w6) := Lib.hid (by
            have h5 : Below base w w5 := HL.out.below.trans (HB5.out.mono (by have := HL.out.lo; have := HL.out.hi; omega))
            refine ⟨h5.grown hg6 (by have := HB5.out.size; have := HL.out.lo; have := HL.out.hi; omega) (fun q hq => by have := HW5.out.ownBlock q hq; have := HL.out.lo; omega), fun k hk => ?_, HL.out.lo, by have := HL.out.hi; have := HB5.out.size; have := hg6.size; omega, ⟨S' ++ E, W ++ [(fixI z : Int)], rfl, ?_, hO6⟩⟩
            · have hbk : w6.heap[ob]? = wc.heap[ob]? := (hg6.block ob (by have := HL.out.hi; have := HB5.out.size; omega) (fun e => by have := HW5.out.ownBlock ob e.symm; omega)).trans (HB5.out.block ob HL.out.hi)
              rw [← HL.out.ords k hk]
              simp [World.cell?, hbk]
            · have hcat : (S' ++ E).data.toList = S'.data.toList ++ encS z := by rw [← HE.out]; simp
              rw [hcat]
              exact txt_enc HS'.out.1 HS'.out.2.1 HS'.out.2.2 HTx.out.cnt HK.out.1 HK.out.2)
          clear hO6 hg6
          go_wp2
          go_roundw
          case rel => exact ⟨j + 1, by go_num, by omega, by omega, HL6⟩
          case measure => simp [intOf]; omega
        · have HL6 : Hid (Lp base ob w (.string S') u9 (j + 1) wc) := Lib.hid ⟨HL.out.below, HL.out.ords, HL.out.lo, HL.out.hi, ⟨S', W, rfl, ⟨HS'.out.1, HS'.out.2.1, by have := HS'.out.2.2; omega, by have := HTx.out.cnt; omega⟩, HOw.out⟩⟩
          have hk2 : decide (32 ≤ z) = false ∨ (decide (32 ≤ z) = true ∧ z = 127) := by
            by_cases h : 32 ≤ z
            · right
              refine ⟨by simp; omega, ?_⟩
              by_cases h2 : z = 127
              · exact h2
              · exact absurd ⟨h, h2⟩ hk
            · left; simp; omega
          clear hk
          rcases hk2 with q1 | ⟨q1, rfl⟩
          all_goals
            go_wp2
            go_roundw
            case rel => exact ⟨j + 1, by go_num, by omega, by omega, HL6⟩
            case measure => simp [intOf]; omega
      · have hcond : decide (j < len1) = false ∨ (decide (j < len1) = true ∧ decide ((j : Int) < 30) = false) := by
          by_cases h : j < len1
          · right; exact ⟨by simp; omega, by simp; omega⟩
          · left; simp; omega
        have HL' : Hid (∃ n, n ≤ 30 ∧ Lp base ob w u8 u9 n wr) := Lib.hid ⟨j, hj30, HL.out⟩
        rcases hcond with h1 | ⟨h1, h2⟩
        all_goals
          go_wp2
          go_meet
          exact HL'
  case rest =>
  obtain ⟨n, hn30, hLp⟩ := hcut.out
  obtain ⟨S, W, htx, hTx, hOw⟩ := hLp.txt
  obtain ⟨wE, hwE⟩ : ∃ wE, wE = wc := ⟨_, rfl⟩
  subst hwE
  subst htx
  obtain ⟨aw, cw, hwv, hin, hbk, _, hle, hmx⟩ := hOw.shape
  subst hwv
  have hSz : (S.size : Int) ≤ 300 := by have h1 := hTx.len; have h2 : S.data.toList.length = S.size := rfl; omega
  have hWn : (W.length : Int) ≤ 30 := by have := hTx.cnt; omega
  obtain ⟨U, hU⟩ : ∃ U, S.data.toList = U := ⟨_, rfl⟩
  rw [hU] at hTx
  have hUl : U.length = S.size := by rw [← hU]; rfl
  obtain ⟨NW, hNW⟩ : ∃ NW, W.length = NW := ⟨_, rfl⟩
  rw [hNW] at hin hWn hle ⊢
  obtain ⟨C, hC⟩ : ∃ C : Nat, max (0 : Int) (min ct (S.size : Int)) = (C : Int) := ⟨(max 0 (min ct (S.size : Int))).toNat, by omega⟩
  have hCS : (C : Int) ≤ S.size := by omega
  obtain ⟨S1, hS1⟩ : ∃ S1, S.extract 0 C = S1 := ⟨_, rfl⟩
  obtain ⟨S2, hS2⟩ : ∃ S2, S.extract C S.size = S2 := ⟨_, rfl⟩
  have hS1l : S1.data.toList = U.take C := by rw [← hS1, ext_list (bytes_ext hU) 0 C, List.drop_zero]
  have hS2l : S2.data.toList = U.drop C := by rw [← hS2, ext_list (bytes_ext hU) C S.size, ← hUl, List.take_length]
  obtain ⟨rb, hrb⟩ : ∃ rb, wE.heap.size = rb := ⟨_, rfl⟩
  obtain ⟨w5, hw5⟩ : ∃ w5, wE.alloc (.cells zeroP 31) = w5 := ⟨_, rfl⟩
  have hb5 : Below rb wE w5 := by rw [← hw5, ← hrb]; exact (Below.refl _ _).alloc (Nat.le_refl _) _
  have hP5 : PBlk rb (fresh 0) w5 := by rw [← hw5, ← hrb]; exact PBlk.zero wE
  have hbr : base ≤ rb := by have := hLp.lo; have := hLp.hi; omega
  have hB5 : Below base w w5 := hLp.below.trans (hb5.mono hbr)
  have hne : 0 ≠ rb := by have h := (HTB.out wE hLp.below).pos; rw [hrb] at h; omega
  have HInE := Lib.hid hin
  have HE5 : Hid (∀ b, b < rb → w5.heap[b]? = wE.heap[b]?) := Lib.hid (fun b hb => hb5.block b hb)
  have hpos : 0 < rb := by have h := (HTB.out wE hLp.below).pos; rw [hrb] at h; exact h
  have HTx := Lib.hid hTx
  have HP5 := Lib.hid hP5
  have HB5 := Lib.hid hB5
  have HS1 := Lib.hid hS1
  have HS2 := Lib.hid hS2
  have HS1l := Lib.hid hS1l
  have HS2l := Lib.hid hS2l
  have HUl := Lib.hid hUl
  have HNW := Lib.hid hNW
  unfold zeroP at hw5
  have HW5 := Lib.hid hw5
  have HRb := Lib.hid hrb
  clear hcut hLp hOw hin hbk hTx hU hNW hS1 hS2 hS1l hS2l hrb hw5 hb5 hP5 hB5 hUl HW2 HOb HLp HB1 HA1 HA2
  go_upto_region 16 with fail
  rw [HW5.out, HRb.out]
  go_upto_region 17 with fail
  obtain ⟨lo, hlo⟩ : ∃ lo, w5.heap.size = lo := ⟨_, rfl⟩
  have HLo := Lib.hid hlo
  refine R.wp_region_rel (by kernel_rfl) (fun u => Below lo w5 u ∧ lo ≤ u.heap.size) (fun u v => Below u.heap.size u v) (TopOk lo C S S1 S2) (by rfl) (by kernel_rfl) (by kernel_rfl) ?hC ?hOk ?hop ?hdone ⟨(Below.refl _ _).drew, Nat.le_of_eq hlo.symm⟩
  case hC => exact fun u v hu huv => ⟨hu.1.trans (huv.mono hu.2), Nat.le_trans hu.2 huv.size⟩
  case hOk =>
    intro i x u u' hv huu
    unfold TopOk at hv ⊢
    split at hv
    all_goals first | exact hv | trivial | skip
    obtain ⟨g, h1, h2, h3⟩ := hv
    exact ⟨g, h1, h2, (huu.block g (Array.getElem?_eq_some_iff.1 h3).1).trans h3⟩
  case hop =>
    refine ⟨?_, ?_, ?_, ?_, ?_, ?_, ?_, ?_, ?_, trivial⟩
    · intro z v hz hag hdep
      refine .inl ⟨rfl, fun K hK => ?_⟩
      have d8 : z.tmps.getD 8 undef = .string S := hag.2.2 8 (by kernel_rfl)
      have e8 := d8
      rw [Array.getD_eq_getD_getElem?] at e8
      clear hdep hag
      go_simp
      exact hK _ _ (Below.refl _ _) rfl
    · intro z v hz hag hdep
      refine .inl ⟨rfl, fun K hK => ?_⟩
      have d2 : z.tmps.getD 2 undef = .int .i64 (C : Int) := hag.2.2 2 (by kernel_rfl)
      have e2 := d2
      rw [Array.getD_eq_getD_getElem?] at e2
      clear hdep hag
      go_simp
      exact hK _ _ (Below.refl _ _) rfl
    · intro z v hz hag hdep
      refine .inl ⟨rfl, fun K hK => ?_⟩
      have d83 : TopOk lo C S S1 S2 0 (z.tmps.getD 83 undef) v := hdep { on := 0, ground := .data } (by simp) rfl _ _ rfl rfl
      simp only [TopOk] at d83
      have e83 := d83
      rw [Array.getD_eq_getD_getElem?] at e83
      have d84 : TopOk lo C S S1 S2 1 (z.tmps.getD 84 undef) v := hdep { on := 1, ground := .data } (by simp) rfl _ _ rfl rfl
      simp only [TopOk] at d84
      have e84 := d84
      rw [Array.getD_eq_getD_getElem?] at e84
      clear hdep hag
      have hle := hCS
      go_simp
      exact hK _ _ (Below.refl _ _) (by show _ = Value.string _; rw [← HS1.out])
    · intro z v hz hag hdep
      refine .inl ⟨rfl, fun K hK => ?_⟩
      have d8 : z.tmps.getD 8 undef = .string S := hag.2.2 8 (by kernel_rfl)
      have e8 := d8
      rw [Array.getD_eq_getD_getElem?] at e8
      clear hdep hag
      go_simp
      exact hK _ _ (Below.refl _ _) rfl
    · intro z v hz hag hdep
      refine .inl ⟨rfl, fun K hK => ?_⟩
      have d2 : z.tmps.getD 2 undef = .int .i64 (C : Int) := hag.2.2 2 (by kernel_rfl)
      have e2 := d2
      rw [Array.getD_eq_getD_getElem?] at e2
      clear hdep hag
      go_simp
      exact hK _ _ (Below.refl _ _) rfl
    · intro z v hz hag hdep
      refine .inl ⟨rfl, fun K hK => ?_⟩
      have d86 : TopOk lo C S S1 S2 3 (z.tmps.getD 86 undef) v := hdep { on := 3, ground := .data } (by simp) rfl _ _ rfl rfl
      simp only [TopOk] at d86
      have e86 := d86
      rw [Array.getD_eq_getD_getElem?] at e86
      have d87 : TopOk lo C S S1 S2 4 (z.tmps.getD 87 undef) v := hdep { on := 4, ground := .data } (by simp) rfl _ _ rfl rfl
      simp only [TopOk] at d87
      have e87 := d87
      rw [Array.getD_eq_getD_getElem?] at e87
      clear hdep hag
      have hle := hCS
      go_simp
      exact hK _ _ (Below.refl _ _) (by show _ = Value.string _; rw [← HS2.out])
    · intro z v hz hag hdep
      refine .inl ⟨rfl, fun K hK => ?_⟩
      have d85 : TopOk lo C S S1 S2 2 (z.tmps.getD 85 undef) v := hdep { on := 2, ground := .data } (by simp) rfl _ _ rfl rfl
      simp only [TopOk] at d85
      have e85 := d85
      rw [Array.getD_eq_getD_getElem?] at e85
      have d88 : TopOk lo C S S1 S2 5 (z.tmps.getD 88 undef) v := hdep { on := 5, ground := .data } (by simp) rfl _ _ rfl rfl
      simp only [TopOk] at d88
      have e88 := d88
      rw [Array.getD_eq_getD_getElem?] at e88
      clear hdep hag
      go_simp
      exact hK _ _ ((Below.refl _ _).alloc (Nat.le_refl _) _) ⟨_, rfl, hz.2, World.alloc_heap_new v _⟩
    · intro z v hz hag hdep
      refine .inl ⟨rfl, fun K hK => ?_⟩
      have d89 : TopOk lo C S S1 S2 6 (z.tmps.getD 89 undef) v := hdep { on := 6, ground := .data } (by simp) rfl _ _ rfl rfl
      simp only [TopOk] at d89
      obtain ⟨x89, e89⟩ : ∃ x, z.tmps.getD 89 undef = x := ⟨_, rfl⟩
      rw [e89] at d89
      rw [Array.getD_eq_getD_getElem?] at e89
      obtain ⟨g89, rfl, hg89, hh89⟩ := d89
      clear hdep hag
      go_simp
      exact hK _ _ (Below.refl _ _) rfl
    · intro z v hz hag hdep
      refine .inl ⟨rfl, fun K hK => ?_⟩
      clear hdep hag
      go_simp
      exact hK _ _ (Below.refl _ _) rfl
  case hdone =>
    intro z0 u hz hag hall
    have d89 : TopOk lo C S S1 S2 6 (z0.tmps.getD 89 undef) u := hall 6 _ _ rfl rfl
    have d90 : TopOk lo C S S1 S2 7 (z0.tmps.getD 90 undef) u := hall 7 _ _ rfl rfl
    have d91 : TopOk lo C S S1 S2 8 (z0.tmps.getD 91 undef) u := hall 8 _ _ rfl rfl
    simp only [TopOk] at d89 d90 d91
    obtain ⟨g, d89, hg1, hg2⟩ := d89
    obtain ⟨uu, huu, hzz⟩ := Go.Proofs.YtfapmgecebcfaaaDoor.R.agree_frame [83, 84, 85, 86, 87, 88, 89, 90, 91] rfl hag
    have e89 := (huu 89).trans d89
    have e90 := (huu 90).trans d90
    have e91 := (huu 91).trans d91
    subst hzz
    clear d89 d90 d91 hag hall huu
    simp only [List.foldl_cons, List.foldl_nil]
    rw [e89, e90, e91]
    clear e89 e90 e91
    have HWs : Hid (Mid rb u.heap.size u U C 0 (.slice none 0 0) u) := Lib.hid ⟨Kept.refl _ _ _, (HP5.out.below hz.1 (by rw [← HLo.out]; exact HP5.out.lt)), OwnR.nil _ _⟩
    have hBu : Below base w u := HB5.out.trans (hz.1.mono (by have := HP5.out.lt; omega))
    have HUE : Hid (∀ b, b < rb → u.heap[b]? = wE.heap[b]?) := Lib.hid (fun b hb => (hz.1.block b (by have := HP5.out.lt; omega)).trans (HE5.out b hb))
    have hrbu : rb < u.heap.size := by have := HP5.out.lt; have := hz.2; omega
    have hgu : g < u.heap.size := (Array.getElem?_eq_some_iff.1 hg2).1
    have hgrb : g ≠ rb := by have := HP5.out.lt; omega
    have HG := Lib.hid hg2
    have HBu := Lib.hid hBu
    have hparts := parts_two U C S1 S2 HS1l.out HS2l.out (by rw [HUl.out]; omega)
    have HParts := Lib.hid hparts
    have hU300 : U.length ≤ 300 := by rw [HUl.out]; omega
    have HU300 := Lib.hid hU300
    clear hz hg1 hg2 hBu hparts hU300 HE5 HB5 HP5 HLo HS1 HS2 HS1l HS2l
    obtain ⟨gb2, hgb2⟩ : ∃ gb2, u.heap.size = gb2 := ⟨_, rfl⟩
    rw [hgb2] at HWs
    have HGb := Lib.hid hgb2
    have hrbu' : rb < gb2 := by omega
    have hgu' : g < gb2 := by omega
    have hgbu : gb2 ≤ u.heap.size := by omega
    clear hgb2
    go_wp2_with fail
    go_frame
    go_loopw [12, 91] (fun gt i wr => ∃ k : Nat, i = .int .i64 (k : Int) ∧ k ≤ 2 ∧ gb2 ≤ wr.heap.size ∧ Hid (Mid rb gb2 u U C k gt wr)) (fun _ i _ => 2 - (intOf i).toNat)
    case atStart => exact ⟨0, rfl, by omega, by omega, HWs⟩
    case round =>
      obtain ⟨k, rfl, hk, hgw, HM⟩ := hrel
      by_cases hlt : k < 2
      · have hd : decide ((k : Int) < 2) = true := by simp; omega
        obtain ⟨pt, hpt1, hpt2, hpt3⟩ := HParts.out k hlt
        have hcp : wr.cell? ⟨g, k, none⟩ = some (.string pt) := by
          have hb : wr.heap[g]? = some (.cells #[.string S1, .string S2] 9 (0, 0)) := (HM.out.kept.block g hgu' hgrb).trans HG.out
          simp only [World.cell?, hb]
          exact hpt1
        obtain ⟨q0, hq0⟩ : ∃ q0, feedS (fresh 0) (U.take (ck U C k)) = q0 := ⟨_, rfl⟩
        obtain ⟨p0, acts0⟩ := q0
        have hok0 : Ok p0 := by have := feed_ok (U.take (ck U C k)) (fresh 0) (fresh_ok 0 (by decide)); rw [hq0] at this; exact this
        obtain ⟨q1, hq1⟩ : ∃ q1, feedS p0 pt.data.toList = q1 := ⟨_, rfl⟩
        obtain ⟨p1, acts⟩ := q1
        have hstep : feedS (fresh 0) (U.take (ck U C (k + 1))) = (p1, acts0 ++ acts) := by
          rw [hpt2, feedS_append, hq0, hq1]
        have hp0 := HM.out.p
        have hgot := HM.out.got
        rw [hq0] at hp0 hgot
        have hT : Tab wr := tab_kept (HTB.out u HBu.out) HM.out.kept (by omega) hne
        have hptz : (pt.size : Int) ≤ 1000 := by have h1 := HU300.out; have h2 : pt.data.toList.length = pt.size := rfl; omega
        have hF := feed_any rb p0 pt hptz wr hp0 hok0 hT hne
        unfold MPost at hF
        rw [hq1] at hF
        have hcnt := feed_count pt.data.toList p0
        have hcnt0 := feed_count (U.take (ck U C k)) (fresh 0)
        rw [hq1] at hcnt
        rw [hq0] at hcnt0
        have hcn : acts.length ≤ 600 := by have := HU300.out; simp only at hcnt; omega
        have hcn0 : acts0.length ≤ 600 := by have := HU300.out; have := List.length_take_le' (ck U C k) U; simp only at hcnt0; omega
        have HF := Lib.hid hF
        have HP0 := Lib.hid hp0
        have HGot := Lib.hid hgot
        have HStep := Lib.hid hstep
        have HCn := Lib.hid hcn
        have HCn0 := Lib.hid hcn0
        clear hpt1 hpt2 hpt3 hq0 hok0 hq1 hstep hp0 hgot hT hF hcnt hcnt0 hcn hcn0
        go_wp2_with fail
        refine HF.out.mono ?_
        rintro e w6 ⟨v6, rfl, hO6, hP6, hK6⟩
        have hg6 := grown_kept hK6
        have hinn : Inn rb gb2 u p1 v6 u12 acts (shown acts0 ++ shown (acts.take 0)) w6 := by
          rw [List.take_zero, show shown [] = [] from rfl, List.append_nil]
          refine ⟨HM.out.kept.trans ⟨hK6.os, hK6.tape, hK6.output, hK6.size, fun i hi hn => hK6.block i (by omega) hn⟩, hP6, hO6.weaken hgw, ?_, Nat.le_trans hgw hK6.size⟩
          exact World.ownsRow.kept HGot.out hg6 (by
            cases hq : u12.ownBlock with
            | none => exact .inl rfl
            | some q => exact .inr (fun e => by have := HGot.out.ownBlock q hq; have := Option.some.inj e; omega))
        obtain ⟨NA, hNA⟩ : ∃ NA, acts.length = NA := ⟨_, rfl⟩
        have hsh : ∃ (a : Option Addr) (cap : Nat), v6 = .slice a NA cap := by
          obtain ⟨a, c, e⟩ := hO6.len
          exact ⟨a, c, by rw [e, hNA]⟩
        obtain ⟨av, cv, rfl⟩ := hsh
        have hNA6 : NA ≤ 600 := by have := HCn.out; omega
        have HInn := Lib.hid hinn
        have HNA := Lib.hid hNA
        clear hO6 hP6 hK6 hg6 hinn hNA HF
        go_wp2_with fail
        go_loopw [12, 98] (fun gt i wi => ∃ m : Nat, i = .int .i64 (m : Int) ∧ m ≤ NA ∧ Hid (Inn rb gb2 u p1 (.slice av NA cv) gt acts (shown acts0 ++ shown (acts.take m)) wi)) (fun _ i _ => NA - (intOf i).toNat)
        case atStart => exact ⟨0, rfl, by omega, HInn⟩
        case round =>
          obtain ⟨m, rfl, hm, HI⟩ := hrel
          obtain ⟨wi, hwi⟩ : ∃ wi, wi = wr := ⟨_, rfl⟩
          subst hwi
          by_cases hlt2 : m < NA
          · have hd2 : decide (m < NA) = true := by simp; omega
            have hml : m < acts.length := by rw [HNA.out]; exact hlt2
            obtain ⟨e0, _⟩ | ⟨g1, c1, hv1, _, _, hg1, hc1, hcm1, hact⟩ := HI.out.own.shape
            · rw [e0] at hml; simp at hml
            have hv2 : av = some ⟨g1, 0, none⟩ ∧ cv = c1 := by injection hv1 with h1 h2 h3; exact ⟨h1, h3⟩
            obtain ⟨rfl, rfl⟩ := hv2
            obtain ⟨nv, hat, hon⟩ := hact m acts[m] (List.getElem?_eq_getElem hml)
            have hsn := shown_snoc (acts.take m) acts[m]
            rw [← List.take_succ_eq_append_getElem hml] at hsn
            obtain ⟨sy, hsy⟩ : ∃ sy, acts[m] = sy := ⟨_, rfl⟩
            rw [hsy] at hat hon hsn
            obtain ⟨an, c, rfl, _, _, _, _, _⟩ := hon.shape
            have k0 := hat.c0
            have k1 := hat.c1
            have k2 := hat.c2
            have k3 := hat.c3
            have k4 := hat.c4
            have k5 := hat.c5
            obtain ⟨K, R, B, p, nums, text⟩ := sy
            simp only at k0 k1 k2 k3 k4 k5 hsn
            obtain ⟨nn, hnn⟩ : ∃ nn, nums.length = nn := ⟨_, rfl⟩
            rw [hnn] at k4
            obtain ⟨X5, hX5⟩ : ∃ X5 : ByteArray, X5 = ⟨⟨text⟩⟩ := ⟨_, rfl⟩
            unfold strV at k5
            rw [← hX5] at k5
            obtain ⟨nb, hnb⟩ : ∃ nb, wi.heap.size = nb := ⟨_, rfl⟩
            obtain ⟨w8, hw8⟩ : ∃ w8, wi.alloc (.cells #[.int .i64 (K : Int), .int .i32 (R : Int), .int .u8 (B : Int), .bool p, .slice an nn c, .string X5] 51) = w8 := ⟨_, rfl⟩
            have hblk : w8.heap[nb]? = some (.cells #[.int .i64 (K : Int), .int .i32 (R : Int), .int .u8 (B : Int), .bool p, .slice an nn c, .string X5] 51 (0, 0)) := by rw [← hw8, ← hnb]; exact World.alloc_heap_new _ _
            have hb8 : Below wi.heap.size wi w8 := by rw [← hw8]; exact (Below.refl _ _).alloc (Nat.le_refl _) _
            have e0 : w8.cell? ⟨nb, 0, none⟩ = some (.int .i64 (K : Int)) := by simp [World.cell?, hblk]
            have e1 : w8.cell? ⟨nb, 1, none⟩ = some (.int .i32 (R : Int)) := by simp [World.cell?, hblk]
            have HI8 := Lib.hid (HI.out.below hb8)
            have HSn := Lib.hid hsn
            have HW8 := Lib.hid hw8
            have HNb := Lib.hid hnb
            have hXl : (((shown acts0 ++ shown (acts.take m)).length : Nat) : Int) ≤ 1000000 := by
              have h1 := shown_len acts0
              have h2 := shown_len (acts.take m)
              have h3 := List.length_take_le m acts
              have h4 := HCn0.out
              rw [List.length_append]
              omega
            have HXl := Lib.hid hXl
            clear hv1 hact hat hon hsn hsy hnn hX5 hnb hw8 hblk hb8 hXl hml
            go_upto_region 23 with fail
            rw [HW8.out, HNb.out]
            clear k0 k1 k2 k3 k4 k5
            by_cases hK : K = 1
            · have HE : Hid (shown acts0 ++ shown (acts.take (m + 1)) = (shown acts0 ++ shown (acts.take m)) ++ [(R : Int)]) := Lib.hid (by rw [HSn.out, if_pos hK, List.append_assoc])
              subst hK
              go_wp2_with (at_builtin; refine wpList_append_runes rfl _ _ rfl rfl gb2 _ (shown acts0 ++ shown (acts.take m)) (some ⟨w8.heap.size, 0, none⟩) 1 1 [(R : Int)] rfl rfl (HI8.out.got.alloc _) (runes_one _ _ _) (fun e => by cases e) HXl.out (by simp) (by have := HI8.out.le; simp; omega) ?_)
              intro v9 w9 hO9 hg9
              have HI9 : Hid (Inn rb gb2 u p1 (.slice (some ⟨g1, 0, none⟩) NA cv) v9 acts (shown acts0 ++ shown (acts.take (m + 1))) w9) := Lib.hid (by
                rw [HE.out, List.append_assoc]
                exact (HI8.out.below ((Below.refl _ _).alloc (Nat.le_refl _) _)).more hrbu' hO9 hg9)
              clear hO9 hg9
              go_wp2
              go_roundw
              case rel => exact ⟨m + 1, by go_num, by omega, HI9⟩
              case measure => simp [intOf]; omega
            · have HI9 : Hid (Inn rb gb2 u p1 (.slice (some ⟨g1, 0, none⟩) NA cv) u12 acts (shown acts0 ++ shown (acts.take (m + 1))) w8) := Lib.hid (by
                rw [HSn.out, if_neg hK, List.append_nil]
                exact HI8.out)
              have qK : ((K : Int) == 1) = false := by rw [beq_eq_false_iff_ne]; omega
              clear hK
              go_wp2
              go_roundw
              case rel => exact ⟨m + 1, by go_num, by omega, HI9⟩
              case measure => simp [intOf]; omega
          · obtain rfl : m = NA := by omega
            have hd2 : decide ((m : Int) < (m : Int)) = false := by simp
            have hta : acts.take m = acts := List.take_of_length_le (by rw [HNA.out]; exact Nat.le_refl _)
            have HM' : Hid (Mid rb gb2 u U C (k + 1) u12 wi) := Lib.hid (by
              have h := HI.out
              rw [hta] at h
              refine ⟨h.kept, ?_, ?_⟩
              · rw [HStep.out]; exact h.p
              · rw [HStep.out, shown_append]; exact h.got)
            have hgi : gb2 ≤ wi.heap.size := HI.out.le
            clear hta
            go_wp2
            go_roundw
            case rel => exact ⟨k + 1, by go_num, by omega, hgi, HM'⟩
            case measure => simp [intOf]; omega
      · obtain rfl : k = 2 := by omega
        have hd : decide ((2 : Int) < 2) = false := by simp
        have hgot : OwnR gb2 u12 W wr := by
          have h := HM.out.got
          rw [show ck U C 2 = U.length from rfl, List.take_length, HTx.out.runes] at h
          exact h
        obtain ⟨ag, cg, hgv, hgin, hgbk, _, _, hgmx⟩ := hgot.shape
        rw [HNW.out] at hgv hgin
        subst hgv
        have hwin : RunesIn aw NW W wr := HInE.out.kept (by rw [HRb.out]; omega) (fun b off _ _ hb => by
          rw [HRb.out] at hb
          exact (HM.out.kept.block b (by omega) (by omega)).trans (HUE.out b hb))
        have hBr : Below base w wr := below_kept HBu.out hbr (by omega) (by rw [HGb.out]; exact HM.out.kept)
        have hneq : ((NW : Int) != (NW : Int)) = false := by simp
        have HGin := Lib.hid hgin
        have HWin := Lib.hid hwin
        have HBr := Lib.hid hBr
        obtain ⟨wz, hwz⟩ : ∃ wz, wz = wr := ⟨_, rfl⟩
        subst hwz
        clear hgot hgin hwin hBr hgbk HM
        go_wp2_with fail
        go_loopw [119] (fun i wy => ∃ m : Nat, i = .int .i64 (m : Int) ∧ m ≤ NW ∧ Hid (Below wz.heap.size wz wy)) (fun i _ => NW - (intOf i).toNat)
        case atStart => exact ⟨0, rfl, by omega, Lib.hid (Below.refl _ _)⟩
        case round =>
          obtain ⟨m, rfl, hm, HY⟩ := hrel
          obtain ⟨wy, hwy⟩ : ∃ wy, wy = wr := ⟨_, rfl⟩
          subst hwy
          by_cases hlt2 : m < NW
          · have hd2 : decide (m < NW) = true := by simp; omega
            have hml : m < W.length := by rw [HNW.out]; exact hlt2
            obtain ⟨b1, o1, rfl, hb1, hI1⟩ := HGin.out.2.resolve_left (by intro e; rw [e] at hml; simp at hml)
            obtain ⟨b2, o2, rfl, hb2, hI2⟩ := HWin.out.2.resolve_left (by intro e; rw [e] at hml; simp at hml)
            have hc1 := (HY.out.cell (p := ⟨b1, o1 + m, none⟩) hb1).trans (hI1 m hml)
            have hc2 := (HY.out.cell (p := ⟨b2, o2 + m, none⟩) hb2).trans (hI2 m hml)
            obtain ⟨x, hx⟩ : ∃ x, W.getD m 0 = x := ⟨_, rfl⟩
            rw [hx] at hc1 hc2
            have HYo := Lib.hid HY.out
            clear hI1 hI2 hx hml
            go_upto_region 32 with fail
            go_quiet (fail)
            go_wp2
            go_roundw
            case rel => exact ⟨m + 1, by go_num, by omega, Lib.hid (HYo.out.trans ((drewN_below (Below.refl _ _) _)))⟩
            case measure => simp [intOf]; omega
          · obtain rfl : m = NW := by omega
            have hd2 : decide ((m : Int) < (m : Int)) = false := by simp
            go_wp2
            go_ret
            exact ⟨rfl, by rw [HBs.out]; exact HBr.out.trans (HY.out.mono (by have := HBr.out.size; rw [HBs.out] at this; exact this))⟩
end Go.Proofs.YtfapmgecebcfaaaDoor.Q
