/- PartsBack: of every text (cut at 300 bytes) and size, the parts, put in any order (the first forty of a list), with any of them twice, make the text. No condition. -/
import Derived.Test.YtghnkpfnpidncaaPSizes
namespace Go.Proofs.Ytghnkpfnpidncaa
open Go.RowKit
open Go.Proofs.Ytghnkpfnpidncaa.P

namespace P
theorem i64_and16 (n : Int) : bits .and .i64 n 65535 = n % 65536 := by
  have h127 : (BitVec.ofInt 64 65535).toNat = 2 ^ 16 - 1 := by decide
  have key : (BitVec.ofInt 64 n &&& BitVec.ofInt 64 65535).toNat = (n % ((2 ^ 64 : Nat) : Int)).toNat % 2 ^ 16 := by
    rw [BitVec.toNat_and, BitVec.toNat_ofInt, h127, Nat.and_two_pow_sub_one_eq_mod]
  show IntKind.i64.wrap ((BitVec.ofInt 64 n &&& BitVec.ofInt 64 65535).toNat : Nat) = n % 65536
  rw [key, IntKind.wrap_i64]
  omega
/-- A slot whose blocks all lie from p on. -/
def SlotIn (p : Nat) (k : Int) (L : PL) (w : World) : Prop := ∃ mo, SlotAt p mo k L w ∧ ∀ b, mo = some b → p ≤ b
theorem SlotIn.lt {p : Nat} {k : Int} {L : PL} {w : World} (h : SlotIn p k L w) : p < w.heap.size := by
  obtain ⟨mo, h, _⟩ := h
  exact h.lt
def PutIn (p : Nat) (r : (Int × PL) × Int) (w : World) (e : Ending) (w' : World) : Prop := e = .returned (.int .i64 r.2) ∧ SlotIn p r.1.1 r.1.2 w' ∧ Below p w w'
theorem put_in (p : Nat) (k : Int) (L : PL) (key index count : Int) (d : ByteArray) (w : World) (h : SlotIn p k L w) :
    Calls Try.prog 15 #[.pointer (some ⟨p, 0, none⟩), .int .i64 key, .int .i64 index, .int .i64 count, .string d] w (PutIn p (putS k L key index count (bl d)) w) := by
  obtain ⟨mo, hS, hm⟩ := h
  refine (put_any p mo k L key index count d w hS).mono ?_
  rintro e w' ⟨rfl, mo', hS', hmo, hT⟩
  refine ⟨rfl, ⟨mo', hS', fun b e => ?_⟩, hT.below (Nat.le_refl _) hm (Nat.le_of_lt hS.lt)⟩
  rcases hmo with h | ⟨b', h, h'⟩
  · rw [h] at e; exact hm b e
  · rw [h] at e; cases e
    have := hS.lt; omega
theorem SlotIn.belowAll {p : Nat} {k : Int} {L : PL} {w w' : World} (h : SlotIn p k L w) (hb : Below w.heap.size w w') : SlotIn p k L w' := by
  obtain ⟨mo, hS, hm⟩ := h
  exact ⟨mo, hS.belowAll hb, hm⟩
theorem slotIn_zero (w : World) : SlotIn w.heap.size 0 [] (w.alloc (.cells #[.int .i64 0, .int .i64 0, .map none] 30)) := ⟨none, zero_slot w, fun b e => by cases e⟩
theorem whole_slot (p : Nat) (k : Int) (L : PL) (w : World) (h : SlotIn p k L w) (hf : Fits L) : Calls Try.prog 18 #[.pointer (some ⟨p, 0, none⟩)] w (WholePost L w) := by
  obtain ⟨mo, hS, _⟩ := h
  exact whole_any p mo k L w hS hf
theorem lacks_slot (p : Nat) (k : Int) (L : PL) (w : World) (h : SlotIn p k L w) : Calls Try.prog 19 #[.pointer (some ⟨p, 0, none⟩)] w (WhichPost L false w) := by
  obtain ⟨mo, hS, _⟩ := h
  exact lacks_any p mo k L w hS
theorem bytes_slot (p : Nat) (k : Int) (L : PL) (w : World) (h : SlotIn p k L w) (hf : Fits L) : Calls Try.prog 16 #[.pointer (some ⟨p, 0, none⟩)] w fun e w' => e = .returned (.int .i64 (bytesS L : Int)) ∧ Below w.heap.size w w' := by
  obtain ⟨mo, hS, _⟩ := h
  exact bytes_any p mo k L w hS hf

/-- Nothing is there, or some of the parts of this list are. -/
def Good (key : Int) (cs : List (List UInt8)) (k : Int) (L : PL) : Prop := (k = 0 ∧ L = []) ∨ (k = key ∧ L.length = cs.length ∧ ∀ i, i < cs.length → L.getD i none = none ∨ L.getD i none = some (cs.getD i []))
def There (cs : List (List UInt8)) (L : PL) (i : Nat) : Prop := L.getD i none = some (cs.getD i [])
theorem good_put {key : Int} {cs : List (List UInt8)} {k : Int} {L : PL} (h : Good key cs k L) (hk : 1 ≤ key) (hc : cs.length ≤ 4096) {i : Nat} (hi : i < cs.length) :
    (putS k L key i cs.length (cs.getD i [])).2 = 0 ∧ (putS k L key i cs.length (cs.getD i [])).1.1 = key ∧ Good key cs key (putS k L key i cs.length (cs.getD i [])).1.2 ∧ (putS k L key i cs.length (cs.getD i [])).1.2.length = cs.length ∧
      There cs (putS k L key i cs.length (cs.getD i [])).1.2 i ∧ ∀ j, There cs L j → j < cs.length → There cs (putS k L key i cs.length (cs.getD i [])).1.2 j := by
  unfold putS
  rw [if_neg (by omega)]
  have setn : ∀ M : PL, M.length = cs.length → (∀ j, j < cs.length → M.getD j none = none ∨ M.getD j none = some (cs.getD j [])) →
      Good key cs key (M.set i (some (cs.getD i []))) ∧ (M.set i (some (cs.getD i []))).length = cs.length ∧ There cs (M.set i (some (cs.getD i []))) i ∧ ∀ j, There cs M j → j < cs.length → There cs (M.set i (some (cs.getD i []))) j := by
    intro M hM hp
    have hat : (M.set i (some (cs.getD i []))).getD i none = some (cs.getD i []) := by simp [List.getD_eq_getElem?_getD, hM, hi]
    have hne : ∀ j, j ≠ i → (M.set i (some (cs.getD i []))).getD j none = M.getD j none := fun j hj => by simp only [List.getD_eq_getElem?_getD, List.getElem?_set_ne (Ne.symm hj)]
    refine ⟨.inr ⟨rfl, by simpa using hM, fun j hj => ?_⟩, by simpa using hM, hat, fun j ht hj => ?_⟩
    · by_cases e : j = i
      · subst e; exact .inr hat
      · rw [hne j e]; exact hp j hj
    · by_cases e : j = i
      · subst e; exact hat
      · unfold There; rw [hne j e]; exact ht
  rcases h with ⟨rfl, rfl⟩ | ⟨rfl, hl, hp⟩
  · rw [if_neg (by omega), if_pos (by omega), Int.toNat_natCast, Int.toNat_natCast]
    obtain ⟨q1, q2, q3, q4⟩ := setn (List.replicate cs.length none) (by simp) (fun j hj => .inl (by simp [List.getD_eq_getElem?_getD, hj]))
    exact ⟨rfl, rfl, q1, q2, q3, fun j ht _ => by unfold There at ht; simp at ht⟩
  · rw [if_neg (by omega), if_neg (by omega), if_neg (by omega), Int.toNat_natCast]
    rcases hp i hi with hn | hs
    · rw [hn]
      obtain ⟨q1, q2, q3, q4⟩ := setn L hl hp
      exact ⟨rfl, rfl, q1, q2, q3, q4⟩
    · rw [hs]
      exact ⟨rfl, rfl, .inr ⟨rfl, hl, hp⟩, hl, hs, fun j ht _ => ht⟩
theorem all_there {cs : List (List UInt8)} {L : PL} (hl : L.length = cs.length) (h : ∀ j, j < cs.length → There cs L j) : L = cs.map some := by
  apply List.ext_getElem
  · simpa using hl
  · intro j h1 h2
    have := h j (by omega)
    unfold There at this
    rw [List.getD_eq_getElem?_getD, List.getElem?_eq_getElem h1, List.getD_eq_getElem?_getD, List.getElem?_eq_getElem (by omega)] at this
    simpa using this
theorem haveN_some (cs : List (List UInt8)) : haveN (cs.map some) = cs.length := by unfold haveN; rw [List.filter_eq_self.2 (by simp), List.length_map]
theorem full_some {cs : List (List UInt8)} (h : 1 ≤ cs.length) : fullS (cs.map some) = true := by
  unfold fullS
  rw [haveN_some, List.length_map]
  simp; omega
theorem cat_some (cs : List (List UInt8)) : catS (cs.map some) = cs.flatten := by
  unfold catS
  rw [List.map_map]
  congr 1
  exact List.map_id _
theorem lacks_some (cs : List (List UInt8)) : whichS (cs.map some) false = [] := by
  unfold whichS
  rw [List.filter_eq_nil_iff]
  intro i hi
  have hi := List.mem_range.1 hi
  rw [List.length_map] at hi
  simp [List.getD_eq_getElem?_getD, hi]
theorem fits_some {cs : List (List UInt8)} (h : ∀ c ∈ cs, c.length ≤ 1000000000) : Fits (cs.map some) := fun i => by
  unfold partLen
  by_cases hi : i < cs.length
  · simp [List.getD_eq_getElem?_getD, hi]
    exact h _ (List.getElem_mem hi)
  · simp [List.getD_eq_getElem?_getD, hi]
theorem good_fits {key : Int} {cs : List (List UInt8)} {k : Int} {L : PL} (h : Good key cs k L) (hc : ∀ c ∈ cs, c.length ≤ 1000000000) : Fits L := fun i => by
  unfold partLen
  rcases h with ⟨_, rfl⟩ | ⟨_, hl, hp⟩
  · simp
  · by_cases hi : i < cs.length
    · rcases hp i hi with h | h <;> rw [h]
      · simp
      · simp only [Option.getD_some, List.getD_eq_getElem?_getD, List.getElem?_eq_getElem hi]
        exact hc _ (List.getElem_mem hi)
    · rw [List.getD_eq_getElem?_getD, List.getElem?_eq_none (by omega)]
      simp
theorem chunk_mem {l : List UInt8} {n : Nat} : ∀ c ∈ chunks l n, c.length ≤ l.length := by
  intro c hc
  unfold chunks at hc
  obtain ⟨k, _, rfl⟩ := List.mem_map.1 hc
  rw [chunk_len]; omega
/-- The list of numbers, as a walk meets it. -/
def Order (a : Option Addr) (len : Nat) (w : World) : Prop := len = 0 ∨ ∃ (b off : Nat) (zs : List Int), a = some ⟨b, off, none⟩ ∧ b < w.heap.size ∧ len ≤ zs.length ∧ (len : Int) ≤ 9223372036854775807 ∧ ∀ i, i < zs.length → w.cell? ⟨b, off + i, none⟩ = some (.int .i64 (zs.getD i 0))
end P

set_option maxRecDepth 100000 in
set_option maxHeartbeats 4000000 in
theorem back_walk (s : ByteArray) (z : Int) (a : Option Addr) (len cap : Nat) (hs : (s.size : Int) ≤ 9223372036854775807) (w : World) (hO : P.Order a len w) :
    Calls Try.prog 5 #[.string s, .int .i64 z, .slice a len cap] w fun e w' => e = .returned (.bool true) ∧ Below w.heap.size w w' := by
  have HO := Lib.hid hO
  clear hO
  go_enter Try.func5, Try.ntmps5
  go_wp2_with fail
  refine (P.awake_any w).mono ?_
  rintro e w1 ⟨rfl, hb1⟩
  have HB1 := Lib.hid hb1
  clear hb1
  go_wp2_with fail
  refine (P.cut_any s 300 hs (by decide) _).mono ?_
  rintro e w' ⟨⟨t, rfl, hts, htl⟩, rfl⟩
  clear htl
  have hp := szN_pos z
  have HSp := Lib.hid (split_any t z (by omega) w1)
  obtain ⟨sz, hsz⟩ : ∃ sz, szN z = sz := ⟨_, rfl⟩
  have HSz := Lib.hid hsz
  rw [hsz] at hp
  clear hsz
  go_wp2_with fail
  refine HSp.out.mono ?_
  rintro e w2 ⟨v, ss, rfl, hss, hrow, hb2⟩
  rw [HSz.out] at hss
  have hR := P.rows_of hss hrow
  have HR := Lib.hid hR
  have HB2 := Lib.hid (HB1.out.trans (hb2.mono HB1.out.size))
  obtain ⟨g, cap2, rfl, _, hg⟩ := hR.shape
  have HC := Lib.hid (hR.cell g cap2 rfl)
  have hC := hR.len
  obtain ⟨C, hCC⟩ : ∃ C, ss.length = C := ⟨_, rfl⟩
  have HCL := Lib.hid hC
  have HCC := Lib.hid hCC
  have hcl : C ≤ 301 := by
    have := cntN_le t.size sz hp
    rw [← hCC, hC, show (bl t).length = t.size from rfl]
    omega
  have hcp : 1 ≤ C := by rw [← hCC, hC]; exact cntN_pos _ _
  have HCh : Hid ((chunks (bl t) sz).length = C) := Lib.hid (by rw [chunks_len, ← hC, hCC])
  have HMem : Hid (∀ c ∈ chunks (bl t) sz, c.length ≤ 1000000000) := Lib.hid (fun c hc => by have := chunk_mem c hc; rw [show (bl t).length = t.size from rfl] at this; omega)
  have hc0 : ((C : Int) == 0) = false := by rw [beq_eq_false_iff_ne]; omega
  rw [hCC]
  clear hss hrow hb2 hR hC hCC HSp
  obtain ⟨p, hpp⟩ : ∃ p, w2.heap.size = p := ⟨_, rfl⟩
  have hS0 := P.slotIn_zero w2
  obtain ⟨W0, hW0⟩ : ∃ W0, w2.alloc (.cells #[.int .i64 0, .int .i64 0, .map none] 30) = W0 := ⟨_, rfl⟩
  have hB0 : Below p w2 W0 := by rw [← hW0, ← hpp]; exact (Below.refl _ _).alloc (Nat.le_refl _) _
  rw [hpp, hW0] at hS0
  rw [hpp] at hg
  have HS0 := Lib.hid hS0
  have HB0 := Lib.hid hB0
  have hwp : w.heap.size ≤ p := by rw [← hpp]; exact HB2.out.size
  clear hS0 hB0
  go_wp2_with fail
  clear hpp hW0
  go_loopw [9] (fun i wr => ∃ (k : Nat) (key : Int) (L : PL), k ≤ 40 ∧ k ≤ len ∧ i = .int .i64 (k : Int) ∧ Hid (P.SlotIn p key L wr ∧ P.Good 9 (chunks (bl t) sz) key L ∧ Below p w2 wr)) (fun i _ => 40 - (intOf i).toNat)
  case atStart => exact ⟨0, 0, [], by omega, by omega, rfl, Lib.hid ⟨HS0.out, .inl ⟨rfl, rfl⟩, HB0.out⟩⟩
  case round =>
    obtain ⟨k, key, L, hk40, hkl, rfl, HF⟩ := hrel
    by_cases hlt : k < len ∧ k < 40
    · obtain ⟨hlt1, hlt2⟩ := hlt
      obtain ⟨b, off, zs, rfl, hb, hlz, hl63, hcells⟩ : ∃ (b off : Nat) (zs : List Int), a = some ⟨b, off, none⟩ ∧ b < w.heap.size ∧ len ≤ zs.length ∧ (len : Int) ≤ 9223372036854775807 ∧ ∀ i, i < zs.length → w.cell? ⟨b, off + i, none⟩ = some (.int .i64 (zs.getD i 0)) := by
        rcases HO.out with h | h
        · omega
        · exact h
      have hcz : wr.cell? ⟨b, off + k, none⟩ = some (.int .i64 (zs.getD k 0)) := (HF.out.2.2.cell (p := ⟨b, off + k, none⟩) (by show b < p; omega)).trans ((HB2.out.cell (p := ⟨b, off + k, none⟩) hb).trans (hcells k (by omega)))
      obtain ⟨zz, hzz⟩ : ∃ zz, zs.getD k 0 = zz := ⟨_, rfl⟩
      rw [hzz] at hcz
      have hand := P.i64_and16 zz
      obtain ⟨m, hm⟩ : ∃ m : Nat, zz % 65536 = (m : Int) := ⟨(zz % 65536).toNat, by omega⟩
      rw [hm] at hand
      obtain ⟨ix, hix⟩ : ∃ ix : Nat, m % C = ix := ⟨_, rfl⟩
      have hixC : ix < C := by rw [← hix]; exact Nat.mod_lt _ (by omega)
      have hmod : (m : Int) % (C : Int) = (ix : Int) := by rw [← hix]; omega
      have hmod2 : Int.tmod (m : Int) (C : Int) = (ix : Int) := by rw [Int.tmod_eq_emod_of_nonneg (by omega)]; exact hmod
      have hixl : ix < ss.length := by rw [HCC.out]; exact hixC
      have hcx : wr.cell? ⟨g, ix, none⟩ = some (.string (ss.getD ix ⟨#[]⟩)) := (HF.out.2.2.cell (p := ⟨g, ix, none⟩) hg).trans (HC.out ix hixl)
      have hpart := HR.out.part hixl
      obtain ⟨x, hx⟩ : ∃ x, ss.getD ix ⟨#[]⟩ = x := ⟨_, rfl⟩
      rw [hx] at hcx hpart
      have hbx : bl x = (chunks (bl t) sz).getD ix [] := by rw [hpart, chunks_getD _ _ _ (by rw [← HCL.out]; exact hixl)]
      obtain ⟨e1, e2, e3, e4, e5, e6⟩ := P.good_put HF.out.2.1 (by decide) (by rw [HCh.out]; omega) (i := ix) (by rw [HCh.out]; exact hixC)
      have hput := P.put_in p key L 9 ix C x wr HF.out.1
      rw [← HCh.out, hbx] at hput
      unfold P.PutIn at hput
      rw [e1, e2, HCh.out] at hput
      rw [HCh.out] at e3
      have HP := Lib.hid hput
      have HG := Lib.hid e3
      clear hput e1 e2 e3 e4 e5 e6 hbx hx hpart hzz hm hix hcells
      go_wp2_with fail
      refine HP.out.mono ?_
      rintro e wn ⟨rfl, hSn, hBn⟩
      have HF2 := Lib.hid (And.intro hSn (And.intro HG.out (HF.out.2.2.trans hBn)))
      clear hSn hBn
      go_wp2
      go_roundw
      case rel => exact ⟨k + 1, 9, _, by omega, by omega, by go_num, HF2⟩
      case measure => simp [intOf]; omega
    · have hcase : len ≤ k ∨ (k < len ∧ 40 ≤ k) := by omega
      rcases hcase with hge | ⟨hk1, hge⟩
      all_goals
        clear hlt
        go_wp2_with fail
        go_loopw [54] (fun i W => ∃ (j : Nat) (key : Int) (L : PL), j ≤ C ∧ i = .int .i64 (j : Int) ∧ Hid (P.SlotIn p key L W ∧ P.Good 9 (chunks (bl t) sz) key L ∧ Below p w2 W ∧ ∀ q, q < j → P.There (chunks (bl t) sz) L q)) (fun i _ => C - (intOf i).toNat)
        case atStart => exact ⟨0, key, L, by omega, rfl, Lib.hid ⟨HF.out.1, HF.out.2.1, HF.out.2.2, fun q hq => by omega⟩⟩
        case round =>
          obtain ⟨j, key2, L2, hj, rfl, HF2⟩ := hrel
          clear hge
          by_cases hlt : j < C
          · have hjl : j < ss.length := by rw [HCC.out]; exact hlt
            have hcx : wr.cell? ⟨g, j, none⟩ = some (.string (ss.getD j ⟨#[]⟩)) := (HF2.out.2.2.1.cell (p := ⟨g, j, none⟩) hg).trans (HC.out j hjl)
            have hpart := HR.out.part hjl
            obtain ⟨x, hx⟩ : ∃ x, ss.getD j ⟨#[]⟩ = x := ⟨_, rfl⟩
            rw [hx] at hcx hpart
            have hbx : bl x = (chunks (bl t) sz).getD j [] := by rw [hpart, chunks_getD _ _ _ (by rw [← HCL.out]; exact hjl)]
            obtain ⟨e1, e2, e3, e4, e5, e6⟩ := P.good_put HF2.out.2.1 (by decide) (by rw [HCh.out]; omega) (i := j) (by rw [HCh.out]; exact hlt)
            have hput := P.put_in p key2 L2 9 j C x wr HF2.out.1
            rw [← HCh.out, hbx] at hput
            unfold P.PutIn at hput
            rw [e1, e2, HCh.out] at hput
            rw [HCh.out] at e3 e5 e6
            have HP := Lib.hid hput
            have HG := Lib.hid (And.intro e3 (And.intro e5 e6))
            clear hput e1 e2 e3 e4 e5 e6 hbx hx hpart
            go_wp2_with fail
            refine HP.out.mono ?_
            rintro e wn ⟨rfl, hSn, hBn⟩
            have HF3 := Lib.hid (And.intro hSn (And.intro HG.out.1 (And.intro (HF2.out.2.2.1.trans hBn) (fun q (hq : q < j + 1) => (by
              by_cases e : q = j
              · subst e; exact HG.out.2.1
              · exact HG.out.2.2 q (HF2.out.2.2.2 q (by omega)) (by omega) : P.There (chunks (bl t) sz) _ q)))))
            clear hSn hBn
            go_wp2
            go_roundw
            case rel => exact ⟨j + 1, 9, _, by omega, by go_num, HF3⟩
            case measure => simp [intOf]; omega
          · obtain rfl : j = C := by omega
            have hL2 : key2 = 9 ∧ L2 = (chunks (bl t) sz).map some := by
              rcases HF2.out.2.1 with ⟨_, h⟩ | ⟨h1, h2, _⟩
              · have := HF2.out.2.2.2 0 (by omega)
                rw [h] at this
                unfold P.There at this
                simp at this
              · exact ⟨h1, P.all_there h2 (fun q hq => HF2.out.2.2.2 q (by rw [← HCh.out]; exact hq))⟩
            obtain ⟨rfl, rfl⟩ := hL2
            have hf1 : fullS ((chunks (bl t) sz).map some) = true := P.full_some (by rw [HCh.out]; omega)
            have hcat : catS ((chunks (bl t) sz).map some) = bl t := by rw [P.cat_some, flat_chunks _ _ hp]
            have HWh := Lib.hid (P.whole_slot p 9 _ wr HF2.out.1 (P.fits_some HMem.out))
            have HFu := Lib.hid hf1
            have HCat := Lib.hid hcat
            clear hf1 hcat hlt
            go_wp2_with fail
            refine HWh.out.mono ?_
            rintro e W1 ⟨u, rfl, hu, hB1⟩
            rw [HFu.out]
            obtain rfl : u = t := by
              have h : bl u = bl t := by rw [hu]; unfold wholeS; rw [HFu.out]; exact HCat.out
              rw [ba_eq h, ← ba_eq (u := t) rfl]
            have hs1 := HF2.out.1.belowAll hB1
            have HS1 := Lib.hid hs1
            have HBW := Lib.hid (HF2.out.2.2.1.trans (hB1.mono (Nat.le_of_lt HF2.out.1.lt)))
            have HLk := Lib.hid (P.lacks_slot p 9 _ W1 hs1)
            have hte : (u.toList == u.toList) = true := by simp
            clear hu hB1 hs1 HWh
            go_wp2_with fail
            refine HLk.out.mono ?_
            rintro e W2 ⟨v, rfl, hrow, hB2⟩
            rw [P.lacks_some] at hrow
            obtain ⟨a', c', rfl⟩ : ∃ a' c', v = .slice a' 0 c' := by
              rcases hrow.2 with ⟨h, _⟩ | ⟨g', cap', cur, h, _⟩
              · exact ⟨_, _, h⟩
              · exact ⟨_, _, h⟩
            have hs2 := HS1.out.belowAll hB2
            have HS2 := Lib.hid hs2
            have HBW2 := Lib.hid (HBW.out.trans (hB2.mono (Nat.le_of_lt HS1.out.lt)))
            have HBy := Lib.hid (P.bytes_slot p 9 _ W2 hs2 (P.fits_some HMem.out))
            have hbc : bytesS ((chunks (bl u) sz).map some) = u.size := by rw [bytes_cat, HCat.out]; rfl
            rw [hbc] at HBy
            clear hrow hB2 hs2 HLk hbc
            go_wp2_with fail
            refine HBy.out.mono ?_
            rintro e W3 ⟨rfl, hB3⟩
            have hs3 := HS2.out.belowAll hB3
            have HS3 := Lib.hid hs3
            have HBW3 := Lib.hid (HBW2.out.trans (hB3.mono (Nat.le_of_lt HS2.out.lt)))
            have HPu := Lib.hid (P.put_in p 9 _ 8 0 1 ⟨#[122]⟩ W3 hs3)
            clear hB3 hs3 HBy
            go_wp2_with fail
            refine HPu.out.mono ?_
            rintro e W4 ⟨rfl, hs4, hB4⟩
            have hp8 : putS 9 ((chunks (bl u) sz).map some) 8 0 1 (bl ⟨#[122]⟩) = ((9, (chunks (bl u) sz).map some), 8) := rfl
            rw [hp8] at hs4 ⊢
            have HS4 := Lib.hid hs4
            have HBW4 := Lib.hid (HBW3.out.trans hB4)
            have HPu2 := Lib.hid (P.put_in p 9 _ 10 0 2 ⟨#[122]⟩ W4 hs4)
            clear hs4 hB4 hp8 HPu
            go_wp2_with fail
            refine HPu2.out.mono ?_
            rintro e W5 ⟨rfl, hs5, hB5⟩
            have hp10 : putS 9 ((chunks (bl u) sz).map some) 10 0 2 (bl ⟨#[122]⟩) = ((10, [some [122], none]), 0) := rfl
            rw [hp10] at hs5 ⊢
            have HBW5 := Lib.hid (HBW4.out.trans hB5)
            have HBy2 := Lib.hid (P.bytes_slot p 10 _ W5 hs5 (fun i => by
              match i with
              | 0 => decide
              | 1 => decide
              | i + 2 => simp [partLen]))
            have HS5 := Lib.hid hs5
            have hb1 : bytesS [some [122], none] = 1 := by decide
            rw [hb1] at HBy2
            clear hs5 hB5 hp10 HPu2 hb1
            go_wp2_with fail
            refine HBy2.out.mono ?_
            rintro e W6 ⟨rfl, hB6⟩
            have HBW6 := Lib.hid (HBW5.out.trans (hB6.mono (Nat.le_of_lt HS5.out.lt)))
            clear hB6
            go_wp2
            go_ret
            exact ⟨rfl, HB2.out.trans (HBW6.out.mono hwp)⟩

namespace PartsBackDone
open Go.ChangeShapes Go.WideShapes Go.ChangeAt Go.RowKit
open Go.ChangeMaps (open_string shut_string)
theorem own : ownKnob Try.prog.godebug = none := by kernel_rfl
theorem laidOut : laidOutB Try.prog = true := by kernel_rfl
set_option maxRecDepth 100000 in
theorem lifted (os : Os) (started : os.Started) (H : Type) (enc : TypeId × Value → H) :
    ReturnsInHanded {} Try.checked os 5 .any (Rows.partsBackSpec.pre6 enc Try.prog Try.f5 Rows.partsBackRow.domain false) (Rows.partsBackSpec.post enc Try.prog Try.f5 false true false false) := by
  refine returnsInHanded_of_change (C := Try.checked) own started (by kernel_rfl) Try.func5
    (ChangeSpec.witness6 (enc := enc) (C := Try.checked) false ⟨#[], #[.string ⟨#[]⟩, .int .i64 0, .slice none 0 0], []⟩ 8 (by kernel_rfl) (by kernel_rfl) (by kernel_rfl) (by kernel_rfl)) ?_
  intro W base args ds gs before hval0 hW hcnd _
  have hval : ∀ (j : Nat) t v, Try.f5.params[j]? = some t → args[j]? = some v → Value.okWide Try.prog W .any base t v := hval0
  have hW' := hW
  obtain ⟨p, q, hA0, hV, rfl, hfz, hnd⟩ := hW
  have hA : DataW.TrodAll enc Try.prog W 0 (fun _ => true) true Try.f5.params.toList args.toList ds p := hA0
  rw [Try.params5] at hA hval
  obtain ⟨v0, vs0, d0, ds0, p0, q0, hargs, rfl, rfl, h0, r0⟩ := trodAll_cons hA
  obtain ⟨v1, vs1, d1, ds1, p1, q1, rfl, rfl, rfl, h1, r1⟩ := trodAll_cons r0
  obtain ⟨v2, vs2, d2, ds2, p2, q2, rfl, rfl, rfl, h2, r2⟩ := trodAll_cons r1
  obtain ⟨rfl, rfl, rfl⟩ := trodAll_nil r2
  obtain rfl : args = #[v0, v1, v2] := by cases args; simp_all
  obtain ⟨rfl, rfl⟩ := trodVars_none hV
  obtain ⟨s0, rfl, rfl, rfl, w0⟩ := open_string Try.underlying9 (hval 0 9 v0 rfl rfl) h0
  obtain ⟨a1, rfl, rfl, rfl, w1⟩ := open_int Try.underlying3 (hval 1 3 v1 rfl rfl) h1
  obtain ⟨a2, len2, cap2, rfl⟩ := okWide_slice Try.underlying45 (hval 2 45 v2 rfl rfl)
  have k2 := h2
  have lt2 : ∀ x ∈ p2, x.block < W.heap.size := by obtain ⟨m, hm⟩ := k2; exact DataW.trod_lt m _ _ _ hm
  clear hA0 hval0
  have hO : P.Order a2 len2 W := by
    obtain ⟨fuel, hf⟩ := h2
    rcases open_ints Try.underlying45 Try.underlying3 (by kernel_rfl) hf with ⟨hcs, _⟩ | ⟨x, l, c, zs, hcs, _, hlc, hm, hz, _, hcell, hws⟩
    · simp [Value.cells] at hcs
      obtain ⟨rfl, rfl, rfl⟩ := hcs
      exact .inl rfl
    · simp [Value.cells] at hcs
      obtain ⟨rfl, rfl, rfl⟩ := hcs
      by_cases hl0 : len2 = 0
      · exact .inl hl0
      · simp at hz
        obtain ⟨b, off, spot⟩ := x
        have hc0 := hcell 0 (by omega)
        have hspot : spot = none := by simpa [Addr.add] using World.cell?_spot hc0
        subst hspot
        refine .inr ⟨b, off, zs, rfl, World.block_lt_of_cell? W _ hc0, by omega, by unfold maxLen at hm; omega, fun i hi => ?_⟩
        have hc := hcell i hi
        have hadd : (⟨b, off, none⟩ : Addr).add i = ⟨b, off + i, none⟩ := by unfold Addr.add; split <;> simp_all
        rwa [hadd] at hc
  refine (back_walk s0 a1 a2 len2 cap2 (by unfold maxLen at w0; omega) W hO).mono fun e W' ⟨he, bel⟩ => ?_
  subst he
  exact ⟨_, rfl, _, _, _, [], _, [], hW', trodAll_mk1 (shut_bool Try.underlying4 _), (trodAll_cons_mk (shut_string Try.underlying9 w0) (trodAll_cons_mk (shut_int Try.underlying3 w1) (trodAll_cons_mk (Below.trod laidOut (by kernel_rfl) (of_decide_eq_true (by kernel_rfl)) k2 bel lt2) trodAll_mk0))), rfl, bel.frame _, fun h => by cases h⟩

theorem over : Rows.partsBackRow.holds Try.pinned (OpenSpec.ofChange Rows.partsBackSpec) :=
  OpenClaim.holds_of_wide 5 Try.f5 rfl rfl rfl rfl rfl rfl rfl ⟨rfl, rfl, rfl, rfl, rfl⟩ rfl rfl rfl rfl rfl (by kernel_rfl) Try.func5 (by kernel_rfl)
    (of_decide_eq_true (by kernel_rfl)) (by unfold Func.isWrapper; first | (rw [if_pos (by decide +kernel)]; kernel_rfl) | (rw [if_neg (by decide +kernel)]; exact ⟨rfl, rfl⟩))
    (fun os started H enc _ => lifted os started H enc)
end PartsBackDone
theorem PartsBack_holds : Rows.PartsBackSaid := PartsBackDone.over
#print axioms PartsBack_holds

end Go.Proofs.Ytghnkpfnpidncaa
