/- TidewrackShown: runes put into a row, one behind the other, are its runes, as long as they fit: the walk. -/
import Derived.Test.YtmdnnpcofbhceaaDoorVShowM
import Derived.Test.YtmdnnpcofbhceaaDoorVPutW
import Derived.Test.YtmdnnpcofbhceaaDoorVBlank
import Derived.Test.YtmdnnpcofbhceaaDoorVGly
import Derived.Test.YtmdnnpcofbhceaaDoorVDo
import Derived.Test.YtmdnnpcofbhceaaDoorVRArg
import Derived.BigQuiet
import Derived.Lib.QuietBelow
namespace Go.Proofs.YtmdnnpcofbhceaaDoor.K
open Go.RowKit

theorem i64_m31 (n : Int) : bits .and .i64 n 31 = n % 32 := by
  have h127 : (BitVec.ofInt 64 31).toNat = 2 ^ 5 - 1 := by decide
  have key : (BitVec.ofInt 64 n &&& BitVec.ofInt 64 31).toNat = (n % ((2 ^ 64 : Nat) : Int)).toNat % 2 ^ 5 := by
    rw [BitVec.toNat_and, BitVec.toNat_ofInt, h127, Nat.and_two_pow_sub_one_eq_mod]
  show IntKind.i64.wrap ((BitVec.ofInt 64 n &&& BitVec.ofInt 64 31).toNat : Nat) = n % 32
  rw [key, IntKind.wrap_i64]
  omega
theorem i64_m7 (n : Int) : bits .and .i64 n 7 = n % 8 := by
  have h127 : (BitVec.ofInt 64 7).toNat = 2 ^ 3 - 1 := by decide
  have key : (BitVec.ofInt 64 n &&& BitVec.ofInt 64 7).toNat = (n % ((2 ^ 64 : Nat) : Int)).toNat % 2 ^ 3 := by
    rw [BitVec.toNat_and, BitVec.toNat_ofInt, h127, Nat.and_two_pow_sub_one_eq_mod]
  show IntKind.i64.wrap ((BitVec.ofInt 64 n &&& BitVec.ofInt 64 7).toNat : Nat) = n % 8
  rw [key, IntKind.wrap_i64]
  omega
theorem of_97 : W.ofS 97 = 1 := by decide
/-- what is ours, and of another type than a block, isn't in it -/
theorem own_apart {base size : Nat} {T t : TypeId} {v : Value} {n : Nat} {xs : List Value} {w : World} (h : w.ownsRow base T size v n xs) {p : Nat} {x : Value} {bb : Bool} (hR : RoB t p x bb w) (hne : T ≠ t) : v.ownBlock ≠ some p := fun e => by
  obtain ⟨cs, hc, _⟩ := U.own_type h e
  unfold RoB at hR
  rw [hc] at hR
  injection hR with h1
  injection h1 with h1 h2
  exact hne h2
theorem own_apart2 {base base' size size' : Nat} {T T' : TypeId} {v v' : Value} {n n' : Nat} {xs xs' : List Value} {w : World} (h : w.ownsRow base T size v n xs) (h' : w.ownsRow base' T' size' v' n' xs') (hne : T ≠ T') : ∀ q, v.ownBlock = some q → v'.ownBlock ≠ some q := fun q e e' => by
  obtain ⟨cs, hc, _⟩ := U.own_type h e
  obtain ⟨cs', hc', _⟩ := U.own_type h' e'
  rw [hc] at hc'
  injection hc' with h1
  injection h1 with h1 h2
  exact hne h2
theorem own_setAt {base size : Nat} {T t : TypeId} {v : Value} {n : Nat} {xs : List Value} {w : World} (h : w.ownsRow base T size v n xs) {p : Nat} {x : Value} {bb : Bool} (hR : RoB t p x bb w) (hne : T ≠ t) (o : Nat) (y : Value) : (w.setCell ⟨p, o, none⟩ y).ownsRow base T size v n xs := by
  have g1 : w.grownBy (w.setCell ⟨p, o, none⟩ y) (some p) := ⟨rfl, rfl, rfl, (KeepsWalks.setCell w _ y).size, fun i _ hi => Below.heap_setCell _ _ _ i (fun e => hi (by rw [e]))⟩
  exact U.kept_apart h g1 (fun q hq e => own_apart h hR hne (by rw [hq, ← Option.some.inj e]))
theorem RoB.set1' {t : TypeId} {p : Nat} {v : Value} {b b' : Bool} {w : World} (h : RoB t p v b w) : RoB t p v b' (w.setCell ⟨p, 1, none⟩ (.bool b')) := by
  unfold RoB at h ⊢
  simp [World.setCell, Array.getElem?_modify, h]
theorem cell_new {u : World} {p i : Nat} {arr : Array Value} {T : TypeId} {x : Value} (h : u.heap.size = p) (hx : arr[i]? = some x := by rfl) : (u.alloc (.cells arr T)).cell? ⟨p, i, none⟩ = some x := by
  subst h
  rw [World.cell?_alloc_new]
  exact hx
/-- what stands ahead of a round -/
structure Shw (rb b M : Nat) (S : Int) (gs : List Int) (v want : Value) (w wr : World) : Prop where
  below : Below rb w wr
  row : RoB 26 b v false wr
  own : OwnC .i32 82 rb v (cellsG S gs ++ blanks (M - (cellsG S gs).length) 0) wr
  want : OwnP .i32 50 (b + 1) want (gs.map fun r => (r, S)) wr
  fit : (cellsG S gs).length ≤ M
theorem Shw.more {rb b M : Nat} {S : Int} {gs : List Int} {v want : Value} {w wr w' : World} (h : Shw rb b M S gs v want w wr) (hb : Below wr.heap.size wr w') (hs : rb ≤ wr.heap.size) : Shw rb b M S gs v want w w' :=
  ⟨h.below.trans (hb.mono hs), h.row.belowAll hb, h.own.belowAll hb, h.want.belowAll hb, h.fit⟩
theorem Shw.len {rb b M : Nat} {S : Int} {gs : List Int} {v want : Value} {w wr : World} (h : Shw rb b M S gs v want w wr) : (cellsG S gs ++ blanks (M - (cellsG S gs).length) 0).length = M := by
  have := h.fit
  rw [List.length_append, blanks_length]; omega
theorem Shw.cels {rb b M : Nat} {S : Int} {gs : List Int} {v want : Value} {w wr : World} (h : Shw rb b M S gs v want w wr) : ∃ xa ya, v = .slice xa M ya ∧ CelsIn .i32 xa M (cellsG S gs ++ blanks (M - (cellsG S gs).length) 0) wr ∧ (xa = none → ya = 0) ∧ M ≤ ya ∧ (ya : Int) ≤ 9223372036854775807 := by
  obtain ⟨xa, ya, h1, h2, -, h3, h4, h5⟩ := h.own.shape
  rw [h.len] at h1 h2 h4
  exact ⟨xa, ya, h1, h2, h3, h4, h5⟩
/-- a rune is put, and told -/
theorem Shw.next {rb b M co : Nat} {S z : Int} {gs : List Int} {v v1 want want' : Value} {w wr w1 w2 : World} (h : Shw rb b M S gs v want w wr) (hrb : rb ≤ wr.heap.size) (hrb2 : rb ≤ b) (hb1 : Below wr.heap.size wr w1) (hco : W.ofS z = co) (h0 : co ≠ 0) (hfit : (cellsG S gs).length + co ≤ M)
    (ho : OwnC .i32 82 rb v1 (cellsG S (gs ++ [z]) ++ blanks (M - (cellsG S gs).length - co) 0) w1)
    (hw : OwnP .i32 50 (b + 1) want' ((gs.map fun r => (r, S)) ++ [(z, S)]) w2)
    (hg : (((w1.setCell ⟨b, 0, none⟩ v1).setCell ⟨b, 1, none⟩ (.bool false)).alloc (.cells #[.int .i32 z, .int .i64 S] 50)).grownBy w2 want.ownBlock) :
    Shw rb b M S (gs ++ [z]) v1 want' w w2 := by
  have hR1 := h.row.belowAll hb1
  have hR2 := hR1.set0 (v' := v1)
  have hR3 := hR2.set1' (b' := false)
  have hW1 := h.want.belowAll hb1
  have hW2 := own_setAt hW1 hR1 (show 50 ≠ 26 by decide) 0 v1
  have hW3 := own_setAt hW2 hR2 (show 50 ≠ 26 by decide) 1 (.bool false)
  have hO2 := own_setAt ho hR1 (show 82 ≠ 26 by decide) 0 v1
  have hO3 := own_setAt hO2 hR2 (show 82 ≠ 26 by decide) 1 (.bool false)
  obtain ⟨w3, hw3⟩ : ∃ w3, (w1.setCell ⟨b, 0, none⟩ v1).setCell ⟨b, 1, none⟩ (.bool false) = w3 := ⟨_, rfl⟩
  have hB3 : Below rb w w3 := by rw [← hw3]; exact ((h.below.trans (hb1.mono hrb)).setCell (p := ⟨b, 0, none⟩) hrb2 _).setCell (p := ⟨b, 1, none⟩) hrb2 _
  have hs3 : rb ≤ w3.heap.size := Nat.le_trans (Nat.le_trans hrb2 (Nat.le_of_lt hR3.lt)) (by rw [hw3]; exact Nat.le_refl _)
  rw [hw3] at hg hR3 hW3 hO3
  have hbal : Below w3.heap.size w3 (w3.alloc (.cells #[.int .i32 z, .int .i64 S] 50)) := (Below.refl _ _).alloc (Nat.le_refl _) _
  have hR4 := hR3.belowAll hbal
  have hW4 := U.belowAll hW3 hbal
  have hO4 := U.belowAll hO3 hbal
  have hlen : (cellsG S (gs ++ [z])).length = (cellsG S gs).length + co := by rw [cellsG_snoc, List.length_append, cellsR_length S z (by rw [hco]; exact h0), hco]
  refine ⟨(hB3.trans (hbal.mono hs3)).grown hg (by rw [World.size_alloc]; omega) (fun q hq => by have := (U.own_type hW4 hq).choose_spec.2.1; omega), hR4.grown hg (own_apart hW4 hR4 (by decide)), ?_, by rw [List.map_append]; exact hw, by rw [hlen]; exact hfit⟩
  have : M - (cellsG S (gs ++ [z])).length = M - (cellsG S gs).length - co := by rw [hlen]; omega
  rw [this]
  exact U.kept_apart hO4 hg (own_apart2 hO4 hW4 (by decide))

def ShwPut (rb b ab ao n c j M x : Nat) (xa : Option Addr) (ya : Nat) (zr S : Int) (l : List Cel) : Nat → Value → World → Prop
  | 0, u, _ => u = .agg #[.slice xa M ya, .bool false]
  | 1, u, _ => u = .int .i64 (x : Int)
  | 2, u, _ => u = .slice (some ⟨ab, ao, none⟩) n c
  | 3, u, _ => u = .int .i64 (j : Int)
  | 4, u, _ => u = .pointer (some ⟨ab, ao + j, none⟩)
  | 5, u, _ => u = .int .i32 zr
  | 6, u, _ => u = .int .i64 S
  | 7, u, w => ∃ v, u = .agg #[v, .bool false] ∧ OwnC .i32 82 rb v l w
  | _, _, _ => True
def ShwEq (gb go wb wo gn gc wc k : Nat) (zr S : Int) : Nat → Value → World → Prop
  | 0, u, _ => u = .slice (some ⟨gb, go, none⟩) gn gc
  | 1, u, _ => u = .int .i64 (k : Int)
  | 2, u, _ => u = .pointer (some ⟨gb, go + k * 2, none⟩)
  | 3, u, _ => u = .agg #[.int .i32 zr, .int .i64 S]
  | 4, u, _ => u = .slice (some ⟨wb, wo, none⟩) gn wc
  | 5, u, _ => u = .int .i64 (k : Int)
  | 6, u, _ => u = .pointer (some ⟨wb, wo + k * 2, none⟩)
  | 7, u, _ => u = (.agg #[.int .i32 zr, .int .i64 S])
  | 8, u, _ => u = .bool false
  | _, _, _ => True
set_option maxRecDepth 100000 in
set_option maxHeartbeats 16000000 in
theorem shown_walk (a : Option Addr) (n c : Nat) (zs : List Int) (w0 s0 : Int) (w : World) (hT : W.Tab w) (hA : W.Arg a n c zs w) :
    Calls Tryd.prog 12 #[.slice a n c, .int .i64 w0, .int .i64 s0] w fun e w' => e = .returned (.bool true) ∧ Below w.heap.size w w' := by
  obtain ⟨rb, hrb⟩ : ∃ rb, w.heap.size = rb := ⟨_, rfl⟩
  rw [hrb]
  obtain ⟨M, hM⟩ : ∃ M : Nat, bits .and .i64 w0 31 = (M : Int) := ⟨(w0 % 32).toNat, by rw [i64_m31]; omega⟩
  have hM31 : M ≤ 31 := by have := i64_m31 w0; omega
  obtain ⟨Sn, hSn⟩ : ∃ Sn : Nat, bits .and .i64 s0 7 = (Sn : Int) := ⟨(s0 % 8).toNat, by rw [i64_m7]; omega⟩
  have hSn7 : (Sn : Int) ≤ 7 := by have := i64_m7 s0; omega
  obtain ⟨S, hS⟩ : ∃ S : Int, 1 + (Sn : Int) = S := ⟨_, rfl⟩
  have HS0 : Hid (S ≠ 0) := Lib.hid (by omega)
  have HM31 := Lib.hid hM31
  have HRb := Lib.hid hrb
  have HT0 := Lib.hid hT
  have HA0 := Lib.hid hA
  have HLn : Hid (n = zs.length) := Lib.hid hA.rs.1
  have hfit : (n : Int) ≤ c := by have := hA.fit; omega
  have htop := hA.top
  have H1 := Lib.hid (rowBlank_any (M : Int) 0 w)
  rw [hrb, show nearN (M : Int) = M by unfold nearN; omega] at H1
  clear hrb hT hA
  go_enter Tryd.func12, Tryd.ntmps12
  go_upto_region 3 with fail
  try rw [hS]
  clear hS hSn hSn7
  go_wp2_with fail
  refine H1.out.mono ?_
  rintro e w2 ⟨v2, rfl, hO2, hb2⟩
  have hs2 : rb ≤ w2.heap.size := by have := hb2.size; have := HRb.out; omega
  obtain ⟨b, hb⟩ : ∃ b, w2.heap.size = b := ⟨_, rfl⟩
  obtain ⟨w3, hw3⟩ : ∃ w3, w2.alloc (.cells #[v2, .bool false] 26) = w3 := ⟨_, rfl⟩
  have hb23 : Below w2.heap.size w2 w3 := by rw [← hw3]; exact (Below.refl _ _).alloc (Nat.le_refl _) _
  have hR3 : RoB 26 b v2 false w3 := by rw [← hw3, ← hb]; exact RoB.new _ _ _ _
  have hs3 : b + 1 ≤ w3.heap.size := hR3.lt
  have hrbb : rb ≤ b := by omega
  have hsh : Shw rb b M S [] v2 (.slice none 0 0) w w3 := ⟨hb2.trans (hb23.mono hs2), hR3, hO2.belowAll hb23, OwnP.nil _ _ _ _, Nat.zero_le _⟩
  obtain ⟨x1, y1, rfl, -, -, -, -⟩ := hsh.cels
  have HSh3 := Lib.hid hsh
  have HW3 := Lib.hid hw3
  have HBb := Lib.hid hb
  have t0 := hR3.c0
  have HO97 := Lib.hid (W.of_any 97 w3 (HT0.out.belowAll (by rw [HRb.out]; exact hsh.below)))
  rw [of_97] at HO97
  clear hb2 hs2 hb23 hR3 hw3 hb H1 hO2 hsh
  go_upto_region 4 with fail
  rw [HW3.out, HBb.out]
  have hq1 : ((M : Int) != (M : Int)) = false := by simp
  go_wp2_with (go_at_call 28; refine HO97.out.mono ?_; rintro e w4 ⟨rfl, hb4⟩)
  have HSh4 := Lib.hid (HSh3.out.more hb4 (by omega))
  have hs4 : b + 1 ≤ w4.heap.size := HSh4.out.row.lt
  clear t0 hb4 HO97 hq1 HSh3
  go_loopw [8, 9, 10] (fun x want i wr => ∃ j gs v, i = .int .i64 ((j : Nat) : Int) ∧ x = .int .i64 ((cellsG S gs).length : Int) ∧ j ≤ n ∧ j ≤ 40 ∧ gs.length ≤ j ∧ b + 1 ≤ wr.heap.size ∧ Hid (Shw rb b M S gs v want w wr)) (fun _ _ i _ => n - (intOf i).toNat)
  case atStart => exact ⟨0, [], _, rfl, rfl, Nat.zero_le _, by omega, Nat.zero_le _, hs4, HSh4⟩
  case round =>
    obtain ⟨j, gs, v, rfl, rfl, hj, hj40, hgs, hlw, HSh⟩ := hrel
    obtain ⟨xa, ya, rfl, hC, hnil, hya, hymx⟩ := HSh.out.cels
    obtain ⟨x, hx⟩ : ∃ x, (cellsG S gs).length = x := ⟨_, rfl⟩
    have hxM : x ≤ M := by rw [← hx]; exact HSh.out.fit
    rw [hx]
    have HX := Lib.hid hx
    clear hx
    by_cases hlt : j < n ∧ j < 40
    · have d1 : decide (j < n) = true := decide_eq_true hlt.1
      have d2 : decide ((j : Int) < 40) = true := decide_eq_true (by omega)
      have hjn : (j : Int) < n := by omega
      have hjl : j < zs.length := by rw [← HLn.out]; exact hlt.1
      obtain ⟨ab, ao, rfl, hab, hRs⟩ := HA0.out.rs.2.resolve_left (by intro e; rw [e] at hjl; simp at hjl)
      have hz := hRs j hjl
      have hzr : W.isRune (zs.getD j 0) := HA0.out.ok _ (by rw [List.getD_eq_getElem?_getD, List.getElem?_eq_getElem hjl]; exact List.getElem_mem hjl)
      obtain ⟨zr, hzz⟩ : ∃ zr, zs.getD j 0 = zr := ⟨_, rfl⟩
      rw [hzz] at hz hzr
      have habw : ab < wr.heap.size := by have := HRb.out; omega
      have hz5 : wr.cell? ⟨ab, ao + j, none⟩ = some (.int .i32 zr) := (HSh.out.below.cell (p := ⟨ab, ao + j, none⟩) (by rw [← HRb.out]; exact hab)).trans hz
      obtain ⟨co, hco⟩ : ∃ co, W.ofS zr = co := ⟨_, rfl⟩
      have HOz := Lib.hid (W.of_any zr wr (HT0.out.belowAll (by rw [HRb.out]; exact HSh.out.below)))
      rw [hco] at HOz
      have hco2 : co ≤ 2 := by rw [← hco]; exact W.ofS_le zr
      have HCo := Lib.hid hco
      have HJ := Lib.hid hlt
      have HC0 := Lib.hid hC
      have HNil := Lib.hid hnil
      have HAb0 := Lib.hid habw
      have HZ0 := Lib.hid hz5
      clear hlt hjl hRs hz hzz hab habw hco hC hnil
      by_cases hk : co ≠ 0 ∧ x + co ≤ M
      · have q1 : ((co : Int) == 0) = false := by rw [beq_eq_false_iff_ne]; omega
        have q2 : decide ((x : Int) + (co : Int) > (M : Int)) = false := decide_eq_false (by omega)
        have q3 : decide ((M : Int) < (x : Int) + (co : Int)) = false := decide_eq_false (by omega)
        have HK := Lib.hid hk
        clear hk
        go_upto_region 13 with (go_at_call 28; refine HOz.out.mono ?_; rintro e w6 ⟨rfl, hb6⟩)
        have HB6 := Lib.hid hb6
        have HR5 := Lib.hid (HSh.out.row.belowAll hb6)
        have HT6 := Lib.hid (HT0.out.belowAll (w' := w6) (by rw [HRb.out]; exact HSh.out.below.trans (hb6.mono (by omega))))
        have HC6 := Lib.hid (HC0.out.belowAll hb6)
        have HZc : Hid (w6.cell? ⟨ab, ao + j, none⟩ = some (.int .i32 zr)) := Lib.hid ((hb6.cell (p := ⟨ab, ao + j, none⟩) HAb0.out).trans HZ0.out)
        have HAb : Hid (ab < w6.heap.size) := Lib.hid (Nat.lt_of_lt_of_le HAb0.out hb6.size)
        have HBl : Hid (b < w6.heap.size) := Lib.hid (by have := hb6.size; omega)
        have HRb6 : Hid (rb ≤ w6.heap.size) := Lib.hid (by have := hb6.size; omega)
        have HJn := Lib.hid hjn
        obtain ⟨L12, hL12⟩ : ∃ L, cellsG S gs ++ blanks (M - (cellsG S gs).length) 0 = L := ⟨_, rfl⟩
        obtain ⟨L13, hL13⟩ : ∃ L, cellsG S (gs ++ [zr]) ++ blanks (M - (cellsG S gs).length - co) 0 = L := ⟨_, rfl⟩
        have HPut : Hid (putS (W.ofS zr) L12 (x : Int) zr S = L13) := Lib.hid (by
          have h := shown_put S gs (M - (cellsG S gs).length) zr (by rw [HCo.out]; exact HK.out.1) (by rw [HCo.out, HX.out]; have := HK.out.2; omega)
          rw [HCo.out, HX.out] at h
          rw [← hL12, ← hL13, HCo.out, HX.out]
          exact h)
        rw [hL12] at HC6
        have HL13 := Lib.hid hL13
        clear hb6 HOz hL12 hL13 hz5 q1 q2 q3 d1 d2
        refine Go.Proofs.YtmdnnpcofbhceaaDoor.R.wp_region_tailT 8 (by kernel_rfl) (fun u => Below w6.heap.size w6 u) (fun u v => Below u.heap.size u v) (ShwPut rb b ab ao n c j M x xa ya zr S L13) (by rfl) (by kernel_rfl) (by decide) (by kernel_rfl) (by kernel_rfl) (by kernel_rfl) ?hC ?hOk ?hop ?hdone ((Below.refl _ _).drew)
        case hC => exact fun u v h1 h2 => h1.trans (h2.mono h1.size)
        case hOk =>
          intro i u w w' h hr
          unfold ShwPut at h ⊢
          split <;> first | exact True.intro | exact h | (obtain ⟨v, h1, h2⟩ := h; exact ⟨v, h1, h2.belowAll hr⟩)
        case hop =>
          refine ⟨?_, ?_, ?_, ?_, ?_, ?_, ?_, ?_, trivial⟩
          · intro z v hz hag hdep
            refine .inl ⟨rfl, fun K hK => ?_⟩
            have d7 : z.tmps.getD 7 undef = .pointer (some ⟨b, 0, none⟩) := hag.2.2 7 (by kernel_rfl)
            have e7 := d7
            rw [Array.getD_eq_getD_getElem?] at e7
            have l0 := (hz.cell (p := ⟨b, 0, none⟩) HBl.out).trans HR5.out.c0
            have l1 := (hz.cell (p := ⟨b, 1, none⟩) HBl.out).trans HR5.out.c1
            clear hz
            clear hdep hag 
            go_simp
            exact hK _ _ (Below.refl _ _) rfl
          · intro z v hz hag hdep
            refine .inl ⟨rfl, fun K hK => ?_⟩
            have d8 : z.tmps.getD 8 undef = .int .i64 (x : Int) := hag.2.2 8 (by kernel_rfl)
            have e8 := d8
            rw [Array.getD_eq_getD_getElem?] at e8
            clear hdep hag 
            go_simp
            exact hK _ _ (Below.refl _ _) rfl
          · intro z v hz hag hdep
            refine .inl ⟨rfl, fun K hK => ?_⟩
            have d0 : z.tmps.getD 0 undef = .slice (some ⟨ab, ao, none⟩) n c := hag.2.2 0 (by kernel_rfl)
            have e0 := d0
            rw [Array.getD_eq_getD_getElem?] at e0
            clear hdep hag 
            go_simp
            exact hK _ _ (Below.refl _ _) rfl
          · intro z v hz hag hdep
            refine .inl ⟨rfl, fun K hK => ?_⟩
            have d10 : z.tmps.getD 10 undef = .int .i64 (j : Int) := hag.2.2 10 (by kernel_rfl)
            have e10 := d10
            rw [Array.getD_eq_getD_getElem?] at e10
            clear hdep hag 
            go_simp
            exact hK _ _ (Below.refl _ _) rfl
          · intro z v hz hag hdep
            refine .inl ⟨rfl, fun K hK => ?_⟩
            have d56 : z.tmps.getD 56 undef = .slice (some ⟨ab, ao, none⟩) n c := hdep { on := 2, ground := .data } (by simp) rfl _ _ rfl rfl
            have e56 := d56
            rw [Array.getD_eq_getD_getElem?] at e56
            have d57 : z.tmps.getD 57 undef = .int .i64 (j : Int) := hdep { on := 3, ground := .data } (by simp) rfl _ _ rfl rfl
            have e57 := d57
            rw [Array.getD_eq_getD_getElem?] at e57
            have hjn := HJn.out
            clear hz
            clear hdep hag 
            go_simp
            exact hK _ _ (Below.refl _ _) rfl
          · intro z v hz hag hdep
            refine .inl ⟨rfl, fun K hK => ?_⟩
            have d58 : z.tmps.getD 58 undef = .pointer (some ⟨ab, ao + j, none⟩) := hdep { on := 4, ground := .data } (by simp) rfl _ _ rfl rfl
            have e58 := d58
            rw [Array.getD_eq_getD_getElem?] at e58
            have l0 : v.cell? ⟨ab, ao + j, none⟩ = some (.int .i32 zr) := (hz.cell (p := ⟨ab, ao + j, none⟩) HAb.out).trans HZc.out
            clear hz
            clear hdep hag 
            go_simp
            exact hK _ _ (Below.refl _ _) rfl
          · intro z v hz hag hdep
            refine .inl ⟨rfl, fun K hK => ?_⟩
            have d2 : z.tmps.getD 2 undef = .int .i64 S := hag.2.2 2 (by kernel_rfl)
            have e2 := d2
            rw [Array.getD_eq_getD_getElem?] at e2
            clear hdep hag 
            go_simp
            exact hK _ _ (Below.refl _ _) rfl
          · intro z v hz hag hdep
            refine .inl ⟨rfl, fun K hK => ?_⟩
            have d54 : z.tmps.getD 54 undef = .agg #[.slice xa M ya, .bool false] := hdep { on := 0, ground := .data } (by simp) rfl _ _ rfl rfl
            have e54 := d54
            rw [Array.getD_eq_getD_getElem?] at e54
            have d55 : z.tmps.getD 55 undef = .int .i64 (x : Int) := hdep { on := 1, ground := .data } (by simp) rfl _ _ rfl rfl
            have e55 := d55
            rw [Array.getD_eq_getD_getElem?] at e55
            have d59 : z.tmps.getD 59 undef = .int .i32 zr := hdep { on := 5, ground := .data } (by simp) rfl _ _ rfl rfl
            have e59 := d59
            rw [Array.getD_eq_getD_getElem?] at e59
            have d60 : z.tmps.getD 60 undef = .int .i64 S := hdep { on := 6, ground := .data } (by simp) rfl _ _ rfl rfl
            have e60 := d60
            rw [Array.getD_eq_getD_getElem?] at e60
            have HC := Lib.hid (rowPut_any xa M ya false L12 (x : Int) zr S v (HT6.out.belowAll hz) (HC6.out.belowAll hz) HNil.out (by have := HM31.out; omega))
            have HZs := Lib.hid hz.size
            clear hdep hag hz
            go_simp
            refine HC.out.mono ?_
            rintro e w' ⟨v', rfl, h1, h2⟩
            rw [HPut.out] at h1
            exact hK _ _ h2 ⟨_, rfl, h1.weaken (Nat.le_trans HRb6.out HZs.out)⟩
        case hdone =>
          intro z' v' hz hag hok hno
          clear hno
          obtain ⟨v1, d61, hO1⟩ : ∃ v1, z'.tmps.getD 61 undef = .agg #[v1, .bool false] ∧ OwnC .i32 82 rb v1 L13 v' := hok 7 _ 61 (by decide) rfl rfl
          obtain ⟨uu, hu, hzz⟩ := Go.Proofs.YtmdnnpcofbhceaaDoor.R.agree_frame [54, 55, 56, 57, 58, 59, 60, 61] rfl hag
          obtain ⟨x3, y3, hv1, -, -, -, -, -⟩ := hO1.shape
          obtain ⟨m3, hm3⟩ : ∃ m, L13.length = m := ⟨_, rfl⟩
          rw [hm3] at hv1
          subst hv1
          have e61 := (hu 61).trans d61
          subst hzz
          have hR7 := HR5.out.belowAll hz
          have s0 := hR7.c0
          have s1 := hR7.c1
          have f0 := hR7.fr 0
          have f1 := hR7.fr 1
          have HO1 := Lib.hid hO1
          have HB7 := Lib.hid (HB6.out.trans (hz.mono HB6.out.size))
          have HR7 := Lib.hid hR7
          have hlw7 : b + 1 ≤ v'.heap.size := hR7.lt
          have HW7 := Lib.hid (HSh.out.want.belowAll HB7.out)
          clear d61 hu hag hok hz hR7 hO1
          simp only [List.foldl_cons, List.foldl_nil]
          rw [e61]
          clear e61
          dsimp only [List.drop]
          simp only [List.setIfInBounds_toArray, List.set_cons_succ, List.set_cons_zero]
          generalize uu 54 = u54', uu 55 = u55', uu 56 = u56', uu 57 = u57', uu 58 = u58', uu 59 = u59', uu 60 = u60'
          clear uu
          have hz8 : ((v'.setCell ⟨b, 0, none⟩ (.slice x3 m3 y3)).setCell ⟨b, 1, none⟩ (.bool false)).cell? ⟨ab, ao + j, none⟩ = some (.int .i32 zr) := by
            have h1 : Below rb v' ((v'.setCell ⟨b, 0, none⟩ (.slice x3 m3 y3)).setCell ⟨b, 1, none⟩ (.bool false)) := ((Below.refl _ _).setCell (p := ⟨b, 0, none⟩) hrbb _).setCell (p := ⟨b, 1, none⟩) hrbb _
            have h3 : ab < rb := by
              rcases HA0.out.rs.2 with e | ⟨b', o', e, hl, _⟩
              · have := HLn.out; rw [e] at this; simp at this; omega
              · cases e; rw [← HRb.out]; exact hl
            exact (h1.cell (p := ⟨ab, ao + j, none⟩) h3).trans ((HB7.out.cell (p := ⟨ab, ao + j, none⟩) (by show ab < wr.heap.size; exact HAb0.out)).trans HZ0.out)
          have hO8 : OwnP .i32 50 (b + 1) u9 (gs.map fun r => (r, S)) ((v'.setCell ⟨b, 0, none⟩ (.slice x3 m3 y3)).setCell ⟨b, 1, none⟩ (.bool false)) := own_setAt (own_setAt HW7.out HR7.out (show 50 ≠ 26 by decide) 0 (.slice x3 m3 y3)) (HR7.out.set0 (v' := .slice x3 m3 y3)) (show 50 ≠ 26 by decide) 1 (.bool false)
          have hl8 : b + 1 ≤ ((v'.setCell ⟨b, 0, none⟩ (.slice x3 m3 y3)).setCell ⟨b, 1, none⟩ (.bool false)).heap.size := by
            have h1 : Below rb v' ((v'.setCell ⟨b, 0, none⟩ (.slice x3 m3 y3)).setCell ⟨b, 1, none⟩ (.bool false)) := ((Below.refl _ _).setCell (p := ⟨b, 0, none⟩) hrbb _).setCell (p := ⟨b, 1, none⟩) hrbb _
            exact Nat.le_trans hlw7 h1.size
          have HO8 := Lib.hid hO8
          have HL8 := Lib.hid hl8
          have HSz8 : Hid (((v'.setCell ⟨b, 0, none⟩ (.slice x3 m3 y3)).setCell ⟨b, 1, none⟩ (.bool false)).heap.size = v'.heap.size) := Lib.hid (by simp [World.setCell])
          have HLe : Hid ((((gs.map fun r => (r, S))).length : Int) ≤ 1000000) := Lib.hid (by rw [List.length_map]; omega)
          have hjn := HJn.out
          clear hO8 hl8
          go_wp2_with (at_builtin; refine wpList_append_pair gluT rfl _ _ rfl rfl (b + 1) _ (gs.map fun r => (r, S)) (zr, S) v'.heap.size rfl rfl (HO8.out.alloc _) (cell_new HSz8.out) (cell_new HSz8.out) HLe.out (by rw [World.size_alloc]; have := HL8.out; omega) ?_)
          intro want' w9 hown hgr
          have hnx : Shw rb b M S (gs ++ [zr]) (.slice x3 m3 y3) want' w w9 := Shw.next HSh.out (by omega) hrbb HB7.out HCo.out HK.out.1 (by rw [HX.out]; exact HK.out.2) (by rw [HL13.out]; exact HO1.out) hown hgr
          have hlen : (cellsG S (gs ++ [zr])).length = x + co := by rw [cellsG_snoc, List.length_append, cellsR_length S zr (by rw [HCo.out]; exact HK.out.1), HCo.out, HX.out]
          have HNx := Lib.hid hnx
          have HLen := Lib.hid hlen
          have hl9 : b + 1 ≤ w9.heap.size := hnx.row.lt
          have hJ := HJ.out
          clear hnx hlen hown hgr hz8
          go_wp2_with fail
          go_roundw
          case rel => exact ⟨j + 1, gs ++ [zr], _, by go_num, by rw [HLen.out]; go_num, by omega, by omega, by rw [List.length_append, List.length_singleton]; omega, hl9, HNx⟩
          case measure => simp [intOf]; omega
      · have hway : ((co : Int) == 0) = true ∨ (((co : Int) == 0) = false ∧ decide ((x : Int) + (co : Int) > (M : Int)) = true) := by
          by_cases h1 : co = 0
          · left; rw [h1]; rfl
          · right; exact ⟨by rw [beq_eq_false_iff_ne]; omega, decide_eq_true (by omega)⟩
        have hJ := HJ.out
        clear hk
        rcases hway with q1 | ⟨q1, q2⟩
        all_goals
          go_wp2_with (go_at_call 28; refine HOz.out.mono ?_; rintro e w6 ⟨rfl, hb6⟩)
          have HSh6 := Lib.hid (HSh.out.more hb6 (by omega))
          have hl6 : b + 1 ≤ w6.heap.size := HSh6.out.row.lt
          clear hb6
          go_roundw
          case rel => exact ⟨j + 1, gs, _, by go_num, by rw [HX.out], by omega, by omega, by omega, hl6, HSh6⟩
          case measure => simp [intOf]; omega
    · have hway : decide (j < n) = false ∨ (decide (j < n) = true ∧ decide ((j : Int) < 40) = false) := by
        by_cases h1 : j < n
        · right; exact ⟨decide_eq_true h1, decide_eq_false (by omega)⟩
        · left; exact decide_eq_false h1
      have HGl := Lib.hid (glyphs_any xa M ya false _ wr hC (by omega) hya hymx)
      rw [shown_glyphs S HS0.out] at HGl
      have t0 := HSh.out.row.c0
      have t1 := HSh.out.row.c1
      obtain ⟨pa, wc, hpe, hP, -, -⟩ := HSh.out.want.shape
      obtain ⟨m, hm⟩ : ∃ m, (gs.map fun r => (r, S)).length = m := ⟨_, rfl⟩
      rw [hm] at hpe hP
      have hm40 : (m : Int) ≤ 40 := by rw [← hm, List.length_map]; omega
      subst hpe
      have HP := Lib.hid hP
      have HMl := Lib.hid hm
      clear hlt hC hnil hya hymx hP hm
      rcases hway with q1 | ⟨q1, q2⟩
      all_goals
        go_upto_region 16 with fail
        go_wp2_with fail
        refine HGl.out.mono ?_
        rintro e w7 ⟨ga, gn, gc, rfl, hQ, hb7⟩
        have hgn : gn = m := (hQ.len.trans HMl.out)
        subst hgn
        have HQ := Lib.hid hQ
        have HB7 := Lib.hid hb7
        have hq1 : ((gn : Int) != (gn : Int)) = false := by simp
        clear hQ hb7
        go_wp2_with fail
        have hl7 : rb ≤ w7.heap.size := Nat.le_trans (by omega) HB7.out.size
        clear t0 t1
        go_loopw [83] (fun i wv => ∃ k : Nat, i = .int .i64 (k : Int) ∧ k ≤ gn ∧ rb ≤ wv.heap.size ∧ Hid (Below w7.heap.size w7 wv)) (fun i _ => gn - (intOf i).toNat)
        case atStart => exact ⟨0, rfl, Nat.zero_le _, hl7, Lib.hid (Below.refl _ _)⟩
        case round =>
          obtain ⟨wv, hwv⟩ : ∃ wv, wv = wr := ⟨_, rfl⟩
          subst hwv
          obtain ⟨k, rfl, hk, hlv, HBv⟩ := hrel
          by_cases hkn : k < gn
          · have d5 : decide (k < gn) = true := decide_eq_true hkn
            have hkl : k < (gs.map fun r => (r, S)).length := by rw [HMl.out]; exact hkn
            have hkg : k < gs.length := by rw [List.length_map] at hkl; exact hkl
            obtain ⟨gb, go, rfl, hgb, hGA⟩ := HQ.out.at_.resolve_left (by intro e; rw [e] at hkl; simp at hkl)
            obtain ⟨wb, wo, rfl, hwb, hWA⟩ := HP.out.at_.resolve_left (by intro e; rw [e] at hkl; simp at hkl)
            have hgk : (gs.map fun r => (r, S))[k]? = some (gs[k], S) := by rw [List.getElem?_map, List.getElem?_eq_getElem hkg]; rfl
            obtain ⟨zr, hz⟩ : ∃ zr, gs[k] = zr := ⟨_, rfl⟩
            rw [hz] at hgk
            have g1 := hGA k _ hgk
            have g2 := hWA k _ hgk
            have HX0 : Hid (wv.cell? ⟨gb, go + k * 2, none⟩ = some (.int .i32 zr)) := Lib.hid ((HBv.out.cell (p := ⟨gb, go + k * 2, none⟩) hgb).trans g1.1)
            have HX1 : Hid (wv.cell? ⟨gb, go + k * 2 + 1, none⟩ = some (.int .i64 S)) := Lib.hid ((HBv.out.cell (p := ⟨gb, go + k * 2 + 1, none⟩) hgb).trans g1.2)
            have HXx : Hid (gb < wv.heap.size) := Lib.hid (Nat.lt_of_lt_of_le hgb HBv.out.size)
            have hwb7 : wb < w7.heap.size := Nat.lt_of_lt_of_le hwb HB7.out.size
            have HY0 : Hid (wv.cell? ⟨wb, wo + k * 2, none⟩ = some (.int .i32 zr)) := Lib.hid ((HBv.out.cell (p := ⟨wb, wo + k * 2, none⟩) hwb7).trans ((HB7.out.cell (p := ⟨wb, wo + k * 2, none⟩) hwb).trans g2.1))
            have HY1 : Hid (wv.cell? ⟨wb, wo + k * 2 + 1, none⟩ = some (.int .i64 S)) := Lib.hid ((HBv.out.cell (p := ⟨wb, wo + k * 2 + 1, none⟩) hwb7).trans ((HB7.out.cell (p := ⟨wb, wo + k * 2 + 1, none⟩) hwb).trans g2.2))
            have HYx : Hid (wb < wv.heap.size) := Lib.hid (Nat.lt_of_lt_of_le hwb7 HBv.out.size)
            have HKm : Hid ((k : Int) < gn) := Lib.hid (by omega)
            clear hkl hkg hgb hwb hGA hWA hgk hz g1 g2 hwb7
            go_upto_region 22 with fail
            refine Go.Proofs.YtmdnnpcofbhceaaDoor.R.wp_region_rel (by kernel_rfl) (fun u => Below wv.heap.size wv u) (fun u v => Below u.heap.size u v) (ShwEq gb go wb wo gn gc wc k zr S) (by rfl) (by kernel_rfl) (by kernel_rfl) ?hC ?hOk ?hop ?hdone ((Below.refl _ _).drew)
            case hC => exact fun u v h1 h2 => h1.trans (h2.mono h1.size)
            case hOk =>
              intro i u w w' h _
              unfold ShwEq at h ⊢
              split <;> first | exact True.intro | exact h
            case hop =>
              refine ⟨?_, ?_, ?_, ?_, ?_, ?_, ?_, ?_, ?_, trivial⟩
              · intro z v hz hag hdep
                refine .inl ⟨rfl, fun K hK => ?_⟩
                have d12 : z.tmps.getD 12 undef = .slice (some ⟨gb, go, none⟩) gn gc := hag.2.2 12 (by kernel_rfl)
                have e12 := d12
                rw [Array.getD_eq_getD_getElem?] at e12
                clear hdep hag 
                go_simp
                exact hK _ _ (Below.refl _ _) rfl
              · intro z v hz hag hdep
                refine .inl ⟨rfl, fun K hK => ?_⟩
                have d13 : z.tmps.getD 13 undef = .int .i64 (k : Int) := hag.2.2 13 (by kernel_rfl)
                have e13 := d13
                rw [Array.getD_eq_getD_getElem?] at e13
                clear hdep hag 
                go_simp
                exact hK _ _ (Below.refl _ _) rfl
              · intro z v hz hag hdep
                refine .inl ⟨rfl, fun K hK => ?_⟩
                have d86 : z.tmps.getD 86 undef = .slice (some ⟨gb, go, none⟩) gn gc := hdep { on := 0, ground := .data } (by simp) rfl _ _ rfl rfl
                have e86 := d86
                rw [Array.getD_eq_getD_getElem?] at e86
                have d87 : z.tmps.getD 87 undef = .int .i64 (k : Int) := hdep { on := 1, ground := .data } (by simp) rfl _ _ rfl rfl
                have e87 := d87
                rw [Array.getD_eq_getD_getElem?] at e87
                have hkm := HKm.out
                clear hz
                clear hdep hag 
                go_simp
                exact hK _ _ (Below.refl _ _) rfl
              · intro z v hz hag hdep
                refine .inl ⟨rfl, fun K hK => ?_⟩
                have d88 : z.tmps.getD 88 undef = .pointer (some ⟨gb, go + k * 2, none⟩) := hdep { on := 2, ground := .data } (by simp) rfl _ _ rfl rfl
                have e88 := d88
                rw [Array.getD_eq_getD_getElem?] at e88
                have l0 : v.cell? ⟨gb, go + k * 2, none⟩ = some (.int .i32 zr) := (hz.cell (p := ⟨gb, go + k * 2, none⟩) HXx.out).trans HX0.out
                have l1 : v.cell? ⟨gb, go + k * 2 + 1, none⟩ = some (.int .i64 S) := (hz.cell (p := ⟨gb, go + k * 2 + 1, none⟩) HXx.out).trans HX1.out
                clear hz
                clear hdep hag 
                go_simp
                exact hK _ _ (Below.refl _ _) rfl
              · intro z v hz hag hdep
                refine .inl ⟨rfl, fun K hK => ?_⟩
                have d9 : z.tmps.getD 9 undef = .slice (some ⟨wb, wo, none⟩) gn wc := hag.2.2 9 (by kernel_rfl)
                have e9 := d9
                rw [Array.getD_eq_getD_getElem?] at e9
                clear hdep hag 
                go_simp
                exact hK _ _ (Below.refl _ _) rfl
              · intro z v hz hag hdep
                refine .inl ⟨rfl, fun K hK => ?_⟩
                have d13 : z.tmps.getD 13 undef = .int .i64 (k : Int) := hag.2.2 13 (by kernel_rfl)
                have e13 := d13
                rw [Array.getD_eq_getD_getElem?] at e13
                clear hdep hag 
                go_simp
                exact hK _ _ (Below.refl _ _) rfl
              · intro z v hz hag hdep
                refine .inl ⟨rfl, fun K hK => ?_⟩
                have d90 : z.tmps.getD 90 undef = .slice (some ⟨wb, wo, none⟩) gn wc := hdep { on := 4, ground := .data } (by simp) rfl _ _ rfl rfl
                have e90 := d90
                rw [Array.getD_eq_getD_getElem?] at e90
                have d91 : z.tmps.getD 91 undef = .int .i64 (k : Int) := hdep { on := 5, ground := .data } (by simp) rfl _ _ rfl rfl
                have e91 := d91
                rw [Array.getD_eq_getD_getElem?] at e91
                have hkm := HKm.out
                clear hz
                clear hdep hag 
                go_simp
                exact hK _ _ (Below.refl _ _) rfl
              · intro z v hz hag hdep
                refine .inl ⟨rfl, fun K hK => ?_⟩
                have d92 : z.tmps.getD 92 undef = .pointer (some ⟨wb, wo + k * 2, none⟩) := hdep { on := 6, ground := .data } (by simp) rfl _ _ rfl rfl
                have e92 := d92
                rw [Array.getD_eq_getD_getElem?] at e92
                have l0 : v.cell? ⟨wb, wo + k * 2, none⟩ = some (.int .i32 zr) := (hz.cell (p := ⟨wb, wo + k * 2, none⟩) HYx.out).trans HY0.out
                have l1 : v.cell? ⟨wb, wo + k * 2 + 1, none⟩ = some (.int .i64 S) := (hz.cell (p := ⟨wb, wo + k * 2 + 1, none⟩) HYx.out).trans HY1.out
                clear hz
                clear hdep hag 
                go_simp
                exact hK _ _ (Below.refl _ _) rfl
              · intro z v hz hag hdep
                refine .inl ⟨rfl, fun K hK => ?_⟩
                have d89 : z.tmps.getD 89 undef = .agg #[.int .i32 zr, .int .i64 S] := hdep { on := 3, ground := .data } (by simp) rfl _ _ rfl rfl
                have e89 := d89
                rw [Array.getD_eq_getD_getElem?] at e89
                have d93 : z.tmps.getD 93 undef = (.agg #[.int .i32 zr, .int .i64 S]) := hdep { on := 7, ground := .data } (by simp) rfl _ _ rfl rfl
                have e93 := d93
                rw [Array.getD_eq_getD_getElem?] at e93
                clear hdep hag hz
                go_simp
                have hk := hK (.bool false) v (Below.refl _ _) rfl
                first | exact hk | (simpa using hk)
            case hdone =>
              intro z' v' hz hag hok
              have d94 : z'.tmps.getD 94 undef = .bool false := hok 8 _ 94 rfl rfl
              obtain ⟨uu, hu, hzz⟩ := Go.Proofs.YtmdnnpcofbhceaaDoor.R.agree_frame [86, 87, 88, 89, 90, 91, 92, 93, 94] rfl hag
              have e94 := (hu 94).trans d94
              subst hzz
              have HZ : Hid (Below w7.heap.size w7 v') := Lib.hid (HBv.out.trans (hz.mono HBv.out.size))
              have hlz : rb ≤ v'.heap.size := Nat.le_trans hlv hz.size
              clear d94 hu hag hok hz
              simp only [List.foldl_cons, List.foldl_nil]
              rw [e94]
              clear e94
              dsimp only [Exit.then]
              simp only [List.setIfInBounds_toArray, List.set_cons_succ, List.set_cons_zero]
              generalize uu 86 = u86', uu 87 = u87', uu 88 = u88', uu 89 = u89', uu 90 = u90', uu 91 = u91', uu 92 = u92', uu 93 = u93'
              clear uu
              rename_i KK aa
              apply aa
              go_wp2_with fail
              go_roundw
              case rel => exact ⟨k + 1, by go_num, by omega, hlz, HZ⟩
              case measure => simp [intOf]; omega
          · obtain rfl : k = gn := by omega
            have d5 : decide ((k : Int) < (k : Int)) = false := by simp
            have d6 : decide (k < k) = false := by simp
            go_wp2_with fail
            go_ret
            exact ⟨rfl, (HSh.out.below.trans (HB7.out.mono (by omega))).trans (HBv.out.mono hl7)⟩
end Go.Proofs.YtmdnnpcofbhceaaDoor.K
