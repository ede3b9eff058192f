/- SumThree: of any three texts, cut to one length of at most sixty bytes, the sum of their xor is the xor of their sums. No condition. -/
import Derived.Test.YthhaefcglhghfaaDoorTurn
import Derived.Test.YthhaefcglhghfaaDoorRel
import Derived.OwnWalk
namespace Go.Proofs.YthhaefcglhghfaaDoor
open Go.ChangeShapes Go.WideShapes Go.ChangeAt Go.RowKit

theorem info5 : (Tryd.prog.info? 5).map (fun i => (i.zero, i.size, i.bytes)) = some (some (.int .u8 0), 1, 1) := by kernel_rfl

theorem run_min_int4 {P : Program} (w : World) (ts : Array TypeId) (t : TypeId) (k k1 k2 k3 : IntKind) (x y z u : Int) : (Builtin.min_ ts t #[.int k x, .int k1 y, .int k2 z, .int k3 u]).run P w = .ok (.int k (min (min (min x y) z) u)) w := by
  have e : ∀ p q : Int, (if q < p then q else p) = min p q := fun p q => by
    by_cases h : q < p
    · rw [if_pos h]; omega
    · rw [if_neg h]; omega
  simp only [← e]
  simp [Builtin.min_, Builtin.min2]
attribute [local go_sem] run_min_int4
theorem madeCells_u8 (n : Nat) : (madeCells #[Value.int .u8 0] n).toList = (List.replicate n (0 : UInt8)).map (fun x => Value.int .u8 (x.toNat : Int)) := by
  rw [toList_madeCells_one]; simp
theorem own_bytes {w : World} {base g cap n : Nat} {l : List UInt8} (h : w.ownsRow base 5 1 (.slice (some ⟨g, 0, none⟩) n cap) n (l.map (fun x => Value.int .u8 (x.toNat : Int)))) : BytesAt w g l := by
  intro j hj
  have h1 := h.cells (g := g) rfl j (.int .u8 ((l.getD j 0).toNat : Int)) (by simp [hj])
  have hadd : (⟨g, 0, none⟩ : Addr).add j = ⟨g, j, none⟩ := by unfold Addr.add; split <;> simp_all
  rw [hadd] at h1
  refine ⟨h1, ?_⟩
  rcases h.2 with ⟨hv, _⟩ | ⟨g', cap', cur, hv, _, hg, _⟩
  · cases hv
  · cases hv
    simp [World.frozen?, hg]
theorem bytes_below {w w' : World} {g : Nat} {l : List UInt8} (h : BytesAt w g l) (hb : Below w.heap.size w w') : BytesAt w' g l := fun j hj => by
  have hc := h j hj
  have hl := World.block_lt_of_cell? w _ hc.1
  exact ⟨(hb.cell (p := ⟨g, j, none⟩) hl).trans hc.1, (hb.frozen (p := ⟨g, j, none⟩) hl).trans hc.2⟩
theorem bytes_set {w : World} {g : Nat} {l : List UInt8} (h : BytesAt w g l) (k : Nat) (Y : UInt8) (hk : k < l.length) : BytesAt ((w.setCell ⟨g, k, none⟩ (.int .u8 (Y.toNat : Int))).drew) g (l.set k Y) := by
  intro j hj
  simp at hj
  have hc := h j hj
  have h0 := h k hk
  refine ⟨?_, by simpa using hc.2⟩
  rw [World.cell?_drew]
  by_cases e : k = j
  · subst e
    rw [World.cell?_setCell_same _ _ _ h0.1]
    simp [hk]
  · rw [World.cell?_setCell_other _ _ _ _ (by simp [e]), hc.1]
    simp [List.getElem?_set, e]
theorem xor3_length : ∀ (a b c : List UInt8), a.length = b.length → b.length = c.length → (xor3 a b c).length = a.length
  | [], [], [], _, _ => rfl
  | _ :: a, _ :: b, _ :: c, h1, h2 => by simp [xor3, xor3_length a b c (by simpa using h1) (by simpa using h2)]
  | [], [], _ :: _, _, h => by simp at h
  | [], _ :: _, _, h, _ => by simp at h
  | _ :: _, [], _, h, _ => by simp at h
  | _ :: _, _ :: _, [], _, h => by simp at h
theorem xor3_getD : ∀ (a b c : List UInt8) (j : Nat), a.length = b.length → b.length = c.length → (xor3 a b c).getD j 0 = a.getD j 0 ^^^ b.getD j 0 ^^^ c.getD j 0
  | [], [], [], j, _, _ => by simp [xor3]
  | x :: a, y :: b, z :: c, 0, _, _ => by simp [xor3]
  | x :: a, y :: b, z :: c, j + 1, h1, h2 => by
    have := xor3_getD a b c j (by simpa using h1) (by simpa using h2)
    simpa [xor3] using this
  | [], [], _ :: _, _, _, h => by simp at h
  | [], _ :: _, _, _, h, _ => by simp at h
  | _ :: _, [], _, _, h, _ => by simp at h
  | _ :: _, _ :: _, [], _, _, h => by simp at h
theorem xor3_of {l a b c : List UInt8} {k : Nat} (hl : l.length = k) (ha : k ≤ a.length) (hb : k ≤ b.length) (hc : k ≤ c.length)
    (h : ∀ j, j < k → l.getD j 0 = a.getD j 0 ^^^ b.getD j 0 ^^^ c.getD j 0) : l = xor3 (a.take k) (b.take k) (c.take k) := by
  have h1 : (a.take k).length = (b.take k).length := by simp; omega
  have h2 : (b.take k).length = (c.take k).length := by simp; omega
  have hx : (xor3 (a.take k) (b.take k) (c.take k)).length = k := by rw [xor3_length _ _ _ h1 h2]; simp; omega
  apply List.ext_getElem (by rw [hl, hx])
  intro j hj hj'
  have e := h j (by omega)
  have e2 := xor3_getD (a.take k) (b.take k) (c.take k) j h1 h2
  have hjk : j < k := by omega
  have g1 : ∀ m : List UInt8, (m.take k).getD j 0 = m.getD j 0 := fun m => by simp [List.getElem?_take, hjk]
  rw [g1, g1, g1, ← e] at e2
  simpa [hj, hj'] using e2.symm
theorem own_lt {w : World} {base g cap n : Nat} {xs : List Value} (h : w.ownsRow base 5 1 (.slice (some ⟨g, 0, none⟩) n cap) n xs) : g < w.heap.size := (h.lt g rfl).2

/-- A new slice of one text. -/
def Fresh (s : ByteArray) (v : Value) (w : World) : Prop := ∃ g, v = .slice (some ⟨g, 0, none⟩) 1 1 ∧ w.cell? ⟨g, 0, none⟩ = some (.string s)
/-- What the slots of the last statement hold. -/
def ThreeOk (g k : Nat) (xs a b c ax bx cx : ByteArray) (S1 S2 S3 : Nat) : Nat → Value → World → Prop
  | 0, v, _ => v = .slice (some ⟨g, 0, none⟩) k k
  | 1, v, _ => v = .string xs
  | 2, v, w => Fresh xs v w
  | 3, v, _ => v = .int .u32 ((S1 ^^^ S2 ^^^ S3 : Nat) : Int)
  | 4, v, _ => v = .string a
  | 5, v, _ => v = .int .i64 k
  | 6, v, _ => v = .string ax
  | 7, v, w => Fresh ax v w
  | 8, v, _ => v = .int .u32 (S1 : Int)
  | 9, v, _ => v = .string b
  | 10, v, _ => v = .int .i64 k
  | 11, v, _ => v = .string bx
  | 12, v, w => Fresh bx v w
  | 13, v, _ => v = .int .u32 (S2 : Int)
  | 14, v, _ => v = .int .u32 ((S1 ^^^ S2 : Nat) : Int)
  | 15, v, _ => v = .string c
  | 16, v, _ => v = .int .i64 k
  | 17, v, _ => v = .string cx
  | 18, v, w => Fresh cx v w
  | 19, v, _ => v = .int .u32 (S3 : Int)
  | 20, v, _ => v = .int .u32 ((S1 ^^^ S2 ^^^ S3 : Nat) : Int)
  | 21, v, _ => v = .bool true
  | 22, v, _ => v = .bool true
  | _, _, _ => True

set_option maxRecDepth 100000 in
set_option maxHeartbeats 1000000 in
theorem three_walk (a b c : ByteArray) (ha : (a.size : Int) ≤ 9223372036854775807) (hb : (b.size : Int) ≤ 9223372036854775807) (hc : (c.size : Int) ≤ 9223372036854775807) (w : World) (hT : Tab w) :
    Calls Tryd.prog 6 #[.string a, .string b, .string c] w fun e w' => e = .returned (.bool true) ∧ Below w.heap.size w w' := by
  obtain ⟨i0, hi, hz0, hz1, hz2⟩ := info_parts info5
  obtain ⟨n, hn⟩ : ∃ n : Nat, (n : Int) = min (min (min (a.size : Int) b.size) c.size) 60 := ⟨(min (min (min (a.size : Int) b.size) c.size) 60).toNat, by omega⟩
  have hna : (n : Int) ≤ a.size := by omega
  have hnb : (n : Int) ≤ b.size := by omega
  have hnc : (n : Int) ≤ c.size := by omega
  have hn60 : (n : Int) ≤ 60 := by omega
  have HN := Lib.hid hn
  have HT := Lib.hid hT
  clear hn hT
  go_enter Tryd.func6, Tryd.ntmps6
  go_wp2_with fail
  refine (awake_any _ HT.out).mono ?_
  rintro e w1 ⟨rfl, hb1⟩
  have HB1 := Lib.hid hb1
  have HT1 := Lib.hid (tab_of HT.out hb1)
  clear hb1
  have hmn : min (a.size : Int) (min (b.size : Int) (min (c.size : Int) 60)) = (n : Int) := by have := HN.out; omega
  go_wp2_with (at_make; (refine wpList_make_full _ rfl _ _ 36 rfl w1.heap.size 5 i0 (.int .u8 0) 1 Tryd.underlying36 hi hz0 hz1 .i64 .i64 _ _ n rfl rfl rfl rfl ?b2 ?b3 ?b4 ?_))
  case b2 => rw [hz2]; omega
  case b3 => unfold maxLen; omega
  case b4 => exact Nat.le_refl _
  intro w2 hown hgrow
  have hB2 : Below w.heap.size w w2 := HB1.out.grown hgrow HB1.out.size (fun _ h => by cases h)
  have hX : BytesAt w2 w1.heap.size (List.replicate n 0) := own_bytes (by have h := hown; rw [madeCells_u8] at h; exact h)
  have hg : w1.heap.size < w2.heap.size := own_lt hown
  have hle1 := HB1.out.size
  have HB2 := Lib.hid hB2
  have HX := Lib.hid hX
  have hTab2 : Tab w2 := tab_of HT.out hB2
  have HT2 := Lib.hid hTab2
  clear hown hgrow hB2 hX hTab2 hmn
  obtain ⟨g, hge⟩ : ∃ g, w1.heap.size = g := ⟨_, rfl⟩
  rw [hge] at HX hg hle1 ⊢
  clear hge
  go_wp2
  go_loopw [9, 22] (fun _ i wr => ∃ k : Nat, k ≤ n ∧ i = .int .i64 k ∧ Hid (Below w.heap.size w wr ∧ ∃ l : List UInt8, BytesAt wr g l ∧ l.length = n ∧ ∀ j, j < k → l.getD j 0 = a.data.toList.getD j 0 ^^^ b.data.toList.getD j 0 ^^^ c.data.toList.getD j 0)) (fun _ i _ => n - (intOf i).toNat)
  case atStart => exact ⟨0, by omega, rfl, Lib.hid ⟨HB2.out, _, HX.out, by simp, fun j hj => by omega⟩⟩
  case round =>
    rename_i wr _ _
    obtain ⟨k, hk, rfl, hF⟩ := hrel
    by_cases hlt : k < n
    · obtain ⟨hB, l, hl, hll, hlj⟩ := hF.out
      obtain ⟨hc0, hf0⟩ := hl k (by omega)
      obtain ⟨x0, hx0⟩ : ∃ x0, l.getD k 0 = x0 := ⟨_, rfl⟩
      rw [hx0] at hc0
      have HL := Lib.hid hl
      have HLL := Lib.hid hll
      have HLJ := Lib.hid hlj
      have HB := Lib.hid hB
      clear hx0 hl hll hlj hB hF
      have hka : k < a.size := by omega
      have hkb : k < b.size := by omega
      have hkc : k < c.size := by omega
      obtain ⟨X, e1, hX⟩ : ∃ X : UInt8, bits .xor .u8 (a[k].toNat : Int) (b[k].toNat : Int) = (X.toNat : Int) ∧ Hid (X = a[k] ^^^ b[k]) := ⟨a[k] ^^^ b[k], by rw [u8_xor_nat _ _ a[k].toNat_lt b[k].toNat_lt, UInt8.toNat_xor], Lib.hid rfl⟩
      obtain ⟨Y, e2, hY⟩ : ∃ Y : UInt8, bits .xor .u8 (X.toNat : Int) (c[k].toNat : Int) = (Y.toNat : Int) ∧ Hid (Y = X ^^^ c[k]) := ⟨X ^^^ c[k], by rw [u8_xor_nat _ _ X.toNat_lt c[k].toNat_lt, UInt8.toNat_xor], Lib.hid rfl⟩
      go_wp2
      go_region
      go_wp2
      refine ⟨⟨k + 1, by omega, by go_num, Lib.hid ⟨(HB.out.setCell (by simp; omega) _).drew, l.set k Y, ?_, by simp [HLL.out], ?_⟩⟩, by simp [intOf]; omega⟩
      · exact bytes_set HL.out k Y (by rw [HLL.out]; exact hlt)
      · intro j hj
        by_cases hjk : j = k
        · subst hjk
          have hlk : j < l.length := by rw [HLL.out]; exact hlt
          have hs : (l.set j Y).getD j 0 = Y := by simp [hlk]
          rw [hs, hY.out, hX.out]
          simp [hka, hkb, hkc]
          rfl
        · have hs : (l.set k Y).getD j 0 = l.getD j 0 := by simp [List.getElem?_set, Ne.symm hjk]
          rw [hs]
          exact HLJ.out j (by omega)
    · obtain rfl : k = n := by omega
      obtain ⟨hB, l, hl, hll, hlj⟩ := hF.out
      have hxor : l = xor3 (a.data.toList.take k) (b.data.toList.take k) (c.data.toList.take k) := xor3_of hll (by show k ≤ a.size; omega) (by show k ≤ b.size; omega) (by show k ≤ c.size; omega) hlj
      have HL := Lib.hid hl
      have HLL := Lib.hid hll
      have HXor := Lib.hid hxor
      have HB := Lib.hid hB
      have HTr := Lib.hid (tab_of HT.out hB)
      clear hl hll hlj hB hF hxor
      go_wp2
      obtain ⟨ax, hax⟩ : ∃ ax, a.extract 0 k = ax := ⟨_, rfl⟩
      obtain ⟨bx, hbx⟩ : ∃ bx, b.extract 0 k = bx := ⟨_, rfl⟩
      obtain ⟨cx, hcx⟩ : ∃ cx, c.extract 0 k = cx := ⟨_, rfl⟩
      obtain ⟨xs, hxs⟩ : ∃ xs : ByteArray, (⟨l.toArray⟩ : ByteArray) = xs := ⟨_, rfl⟩
      obtain ⟨S1, hS1⟩ : ∃ S1, sumOf ax.data.toList = S1 := ⟨_, rfl⟩
      obtain ⟨S2, hS2⟩ : ∃ S2, sumOf bx.data.toList = S2 := ⟨_, rfl⟩
      obtain ⟨S3, hS3⟩ : ∃ S3, sumOf cx.data.toList = S3 := ⟨_, rfl⟩
      have hS0 : sumOf xs.data.toList = S1 ^^^ S2 ^^^ S3 := by
        rw [← hxs, ← hS1, ← hS2, ← hS3, ← hax, ← hbx, ← hcx]
        have t1 : (a.extract 0 k).data.toList = a.data.toList.take k := by simp
        have t2 : (b.extract 0 k).data.toList = b.data.toList.take k := by simp
        have t3 : (c.extract 0 k).data.toList = c.data.toList.take k := by simp
        rw [t1, t2, t3, ← sum_xor3 _ _ _ (by simp; show min k a.size = min k b.size; omega) (by simp; show min k b.size = min k c.size; omega), ← HXor.out]
      have hlt1 : S1 < 4294967296 := by rw [← hS1]; exact sumOf_lt _
      have hlt2 : S2 < 4294967296 := by rw [← hS2]; exact sumOf_lt _
      have hlt3 : S3 < 4294967296 := by rw [← hS3]; exact sumOf_lt _
      have hlt12 : S1 ^^^ S2 < 4294967296 := Nat.xor_lt_two_pow (n := 32) hlt1 hlt2
      have haxs : (ax.size : Int) ≤ 60 := by rw [← hax]; simp; omega
      have hbxs : (bx.size : Int) ≤ 60 := by rw [← hbx]; simp; omega
      have hcxs : (cx.size : Int) ≤ 60 := by rw [← hcx]; simp; omega
      have HXs : Hid ((xs.size : Int) ≤ 60) := Lib.hid (by rw [← hxs]; show (l.length : Int) ≤ 60; rw [HLL.out]; exact hn60)
      refine wp_region_rel (by kernel_rfl) (fun w' => Below wr.heap.size wr w') (fun u v => Below u.heap.size u v) (ThreeOk g k xs a b c ax bx cx S1 S2 S3) (by rfl) (by kernel_rfl) (by kernel_rfl) ?hC ?hOk ?hop ?hdone ((Below.refl _ _).drew)
      case hC => exact fun u v hu huv => hu.trans (huv.mono hu.size)
      case hOk =>
        intro i v u u' hv huu
        have fresh : ∀ s, Fresh s v u → Fresh s v u' := fun s ⟨g', h1, h2⟩ => ⟨g', h1, (huu.cell (p := ⟨g', 0, none⟩) (World.block_lt_of_cell? u _ h2)).trans h2⟩
        unfold ThreeOk at hv ⊢
        split at hv <;> first | exact fresh _ hv | exact hv | trivial
      case hop =>
        refine ⟨?_, ?_, ?_, ?_, ?_, ?_, ?_, ?_, ?_, ?_, ?_, ?_, ?_, ?_, ?_, ?_, ?_, ?_, ?_, ?_, ?_, ?_, ?_, trivial⟩
        · intro z v hz hag hdep
          refine .inl ⟨rfl, fun K hK => ?_⟩
          have d8 : z.tmps.getD 8 undef = .slice (some ⟨g, 0, none⟩) k k := hag.2.2 8 (by kernel_rfl)
          have e8 := d8
          rw [Array.getD_eq_getD_getElem?] at e8
          clear hdep hag
          go_simp
          exact hK _ _ (Below.refl _ _) rfl
        · intro z v hz hag hdep
          refine .inl ⟨rfl, fun K hK => ?_⟩
          have d40 : ThreeOk g k xs a b c ax bx cx S1 S2 S3 0 (z.tmps.getD 40 undef) v := hdep { on := 0, ground := .data } (by simp) rfl _ _ rfl rfl
          simp only [ThreeOk] at d40
          have e40 := d40
          rw [Array.getD_eq_getD_getElem?] at e40
          have hbk := bytes_back (bytes_below HL.out hz) k
          rw [HLL.out, hxs] at hbk
          clear hdep hag
          go_simp
          exact hK _ _ (Below.refl _ _) rfl
        · intro z v hz hag hdep
          refine .inl ⟨rfl, fun K hK => ?_⟩
          have d41 : ThreeOk g k xs a b c ax bx cx S1 S2 S3 1 (z.tmps.getD 41 undef) v := hdep { on := 1, ground := .data } (by simp) rfl _ _ rfl rfl
          simp only [ThreeOk] at d41
          have e41 := d41
          rw [Array.getD_eq_getD_getElem?] at e41
          clear hdep hag
          go_simp
          exact hK _ _ ((Below.refl _ _).alloc (Nat.le_refl _) _) ⟨v.heap.size, rfl, by simp⟩
        · intro z v hz hag hdep
          refine .inl ⟨rfl, fun K hK => ?_⟩
          have d42 : ThreeOk g k xs a b c ax bx cx S1 S2 S3 2 (z.tmps.getD 42 undef) v := hdep { on := 2, ground := .data } (by simp) rfl _ _ rfl rfl
          obtain ⟨g', d42, hcg⟩ := d42
          have e42 := d42
          rw [Array.getD_eq_getD_getElem?] at e42
          have hcall := of_one xs g' 1 v hcg (by have := HXs.out; omega) (tab_of HTr.out hz)
          rw [hS0] at hcall
          have HCall := Lib.hid hcall
          clear hcall
          clear hdep hag
          go_simp
          refine HCall.out.mono ?_
          rintro e w' ⟨rfl, rfl⟩
          exact hK _ _ (Below.refl _ _) rfl
        · intro z v hz hag hdep
          refine .inl ⟨rfl, fun K hK => ?_⟩
          have d0 : z.tmps.getD 0 undef = .string a := hag.2.2 0 (by kernel_rfl)
          have e0 := d0
          rw [Array.getD_eq_getD_getElem?] at e0
          clear hdep hag
          go_simp
          exact hK _ _ (Below.refl _ _) rfl
        · intro z v hz hag hdep
          refine .inl ⟨rfl, fun K hK => ?_⟩
          have d7 : z.tmps.getD 7 undef = .int .i64 k := hag.2.2 7 (by kernel_rfl)
          have e7 := d7
          rw [Array.getD_eq_getD_getElem?] at e7
          clear hdep hag
          go_simp
          exact hK _ _ (Below.refl _ _) rfl
        · intro z v hz hag hdep
          refine .inl ⟨rfl, fun K hK => ?_⟩
          have d44 : ThreeOk g k xs a b c ax bx cx S1 S2 S3 4 (z.tmps.getD 44 undef) v := hdep { on := 4, ground := .data } (by simp) rfl _ _ rfl rfl
          simp only [ThreeOk] at d44
          have e44 := d44
          rw [Array.getD_eq_getD_getElem?] at e44
          have d45 : ThreeOk g k xs a b c ax bx cx S1 S2 S3 5 (z.tmps.getD 45 undef) v := hdep { on := 5, ground := .data } (by simp) rfl _ _ rfl rfl
          simp only [ThreeOk] at d45
          have e45 := d45
          rw [Array.getD_eq_getD_getElem?] at e45
          clear hdep hag
          go_simp
          exact hK _ _ (Below.refl _ _) rfl
        · intro z v hz hag hdep
          refine .inl ⟨rfl, fun K hK => ?_⟩
          have d46 : ThreeOk g k xs a b c ax bx cx S1 S2 S3 6 (z.tmps.getD 46 undef) v := hdep { on := 6, ground := .data } (by simp) rfl _ _ rfl rfl
          simp only [ThreeOk] at d46
          have e46 := d46
          rw [Array.getD_eq_getD_getElem?] at e46
          clear hdep hag
          go_simp
          exact hK _ _ ((Below.refl _ _).alloc (Nat.le_refl _) _) ⟨v.heap.size, rfl, by simp⟩
        · intro z v hz hag hdep
          refine .inl ⟨rfl, fun K hK => ?_⟩
          have d47 : ThreeOk g k xs a b c ax bx cx S1 S2 S3 7 (z.tmps.getD 47 undef) v := hdep { on := 7, ground := .data } (by simp) rfl _ _ rfl rfl
          obtain ⟨g', d47, hcg⟩ := d47
          have e47 := d47
          rw [Array.getD_eq_getD_getElem?] at e47
          have hcall := of_one ax g' 1 v hcg (by have := haxs; omega) (tab_of HTr.out hz)
          rw [hS1] at hcall
          have HCall := Lib.hid hcall
          clear hcall
          clear hdep hag
          go_simp
          refine HCall.out.mono ?_
          rintro e w' ⟨rfl, rfl⟩
          exact hK _ _ (Below.refl _ _) rfl
        · intro z v hz hag hdep
          refine .inl ⟨rfl, fun K hK => ?_⟩
          have d1 : z.tmps.getD 1 undef = .string b := hag.2.2 1 (by kernel_rfl)
          have e1 := d1
          rw [Array.getD_eq_getD_getElem?] at e1
          clear hdep hag
          go_simp
          exact hK _ _ (Below.refl _ _) rfl
        · intro z v hz hag hdep
          refine .inl ⟨rfl, fun K hK => ?_⟩
          have d7 : z.tmps.getD 7 undef = .int .i64 k := hag.2.2 7 (by kernel_rfl)
          have e7 := d7
          rw [Array.getD_eq_getD_getElem?] at e7
          clear hdep hag
          go_simp
          exact hK _ _ (Below.refl _ _) rfl
        · intro z v hz hag hdep
          refine .inl ⟨rfl, fun K hK => ?_⟩
          have d49 : ThreeOk g k xs a b c ax bx cx S1 S2 S3 9 (z.tmps.getD 49 undef) v := hdep { on := 9, ground := .data } (by simp) rfl _ _ rfl rfl
          simp only [ThreeOk] at d49
          have e49 := d49
          rw [Array.getD_eq_getD_getElem?] at e49
          have d50 : ThreeOk g k xs a b c ax bx cx S1 S2 S3 10 (z.tmps.getD 50 undef) v := hdep { on := 10, ground := .data } (by simp) rfl _ _ rfl rfl
          simp only [ThreeOk] at d50
          have e50 := d50
          rw [Array.getD_eq_getD_getElem?] at e50
          clear hdep hag
          go_simp
          exact hK _ _ (Below.refl _ _) rfl
        · intro z v hz hag hdep
          refine .inl ⟨rfl, fun K hK => ?_⟩
          have d51 : ThreeOk g k xs a b c ax bx cx S1 S2 S3 11 (z.tmps.getD 51 undef) v := hdep { on := 11, ground := .data } (by simp) rfl _ _ rfl rfl
          simp only [ThreeOk] at d51
          have e51 := d51
          rw [Array.getD_eq_getD_getElem?] at e51
          clear hdep hag
          go_simp
          exact hK _ _ ((Below.refl _ _).alloc (Nat.le_refl _) _) ⟨v.heap.size, rfl, by simp⟩
        · intro z v hz hag hdep
          refine .inl ⟨rfl, fun K hK => ?_⟩
          have d52 : ThreeOk g k xs a b c ax bx cx S1 S2 S3 12 (z.tmps.getD 52 undef) v := hdep { on := 12, ground := .data } (by simp) rfl _ _ rfl rfl
          obtain ⟨g', d52, hcg⟩ := d52
          have e52 := d52
          rw [Array.getD_eq_getD_getElem?] at e52
          have hcall := of_one bx g' 1 v hcg (by have := hbxs; omega) (tab_of HTr.out hz)
          rw [hS2] at hcall
          have HCall := Lib.hid hcall
          clear hcall
          clear hdep hag
          go_simp
          refine HCall.out.mono ?_
          rintro e w' ⟨rfl, rfl⟩
          exact hK _ _ (Below.refl _ _) rfl
        · intro z v hz hag hdep
          refine .inl ⟨rfl, fun K hK => ?_⟩
          have d48 : ThreeOk g k xs a b c ax bx cx S1 S2 S3 8 (z.tmps.getD 48 undef) v := hdep { on := 8, ground := .data } (by simp) rfl _ _ rfl rfl
          simp only [ThreeOk] at d48
          have e48 := d48
          rw [Array.getD_eq_getD_getElem?] at e48
          have d53 : ThreeOk g k xs a b c ax bx cx S1 S2 S3 13 (z.tmps.getD 53 undef) v := hdep { on := 13, ground := .data } (by simp) rfl _ _ rfl rfl
          simp only [ThreeOk] at d53
          have e53 := d53
          rw [Array.getD_eq_getD_getElem?] at e53
          have ex := u32_xor_nat S1 S2 hlt1 hlt2
          clear hdep hag
          go_simp
          exact hK _ _ (Below.refl _ _) rfl
        · intro z v hz hag hdep
          refine .inl ⟨rfl, fun K hK => ?_⟩
          have d2 : z.tmps.getD 2 undef = .string c := hag.2.2 2 (by kernel_rfl)
          have e2 := d2
          rw [Array.getD_eq_getD_getElem?] at e2
          clear hdep hag
          go_simp
          exact hK _ _ (Below.refl _ _) rfl
        · intro z v hz hag hdep
          refine .inl ⟨rfl, fun K hK => ?_⟩
          have d7 : z.tmps.getD 7 undef = .int .i64 k := hag.2.2 7 (by kernel_rfl)
          have e7 := d7
          rw [Array.getD_eq_getD_getElem?] at e7
          clear hdep hag
          go_simp
          exact hK _ _ (Below.refl _ _) rfl
        · intro z v hz hag hdep
          refine .inl ⟨rfl, fun K hK => ?_⟩
          have d55 : ThreeOk g k xs a b c ax bx cx S1 S2 S3 15 (z.tmps.getD 55 undef) v := hdep { on := 15, ground := .data } (by simp) rfl _ _ rfl rfl
          simp only [ThreeOk] at d55
          have e55 := d55
          rw [Array.getD_eq_getD_getElem?] at e55
          have d56 : ThreeOk g k xs a b c ax bx cx S1 S2 S3 16 (z.tmps.getD 56 undef) v := hdep { on := 16, ground := .data } (by simp) rfl _ _ rfl rfl
          simp only [ThreeOk] at d56
          have e56 := d56
          rw [Array.getD_eq_getD_getElem?] at e56
          clear hdep hag
          go_simp
          exact hK _ _ (Below.refl _ _) rfl
        · intro z v hz hag hdep
          refine .inl ⟨rfl, fun K hK => ?_⟩
          have d57 : ThreeOk g k xs a b c ax bx cx S1 S2 S3 17 (z.tmps.getD 57 undef) v := hdep { on := 17, ground := .data } (by simp) rfl _ _ rfl rfl
          simp only [ThreeOk] at d57
          have e57 := d57
          rw [Array.getD_eq_getD_getElem?] at e57
          clear hdep hag
          go_simp
          exact hK _ _ ((Below.refl _ _).alloc (Nat.le_refl _) _) ⟨v.heap.size, rfl, by simp⟩
        · intro z v hz hag hdep
          refine .inl ⟨rfl, fun K hK => ?_⟩
          have d58 : ThreeOk g k xs a b c ax bx cx S1 S2 S3 18 (z.tmps.getD 58 undef) v := hdep { on := 18, ground := .data } (by simp) rfl _ _ rfl rfl
          obtain ⟨g', d58, hcg⟩ := d58
          have e58 := d58
          rw [Array.getD_eq_getD_getElem?] at e58
          have hcall := of_one cx g' 1 v hcg (by have := hcxs; omega) (tab_of HTr.out hz)
          rw [hS3] at hcall
          have HCall := Lib.hid hcall
          clear hcall
          clear hdep hag
          go_simp
          refine HCall.out.mono ?_
          rintro e w' ⟨rfl, rfl⟩
          exact hK _ _ (Below.refl _ _) rfl
        · intro z v hz hag hdep
          refine .inl ⟨rfl, fun K hK => ?_⟩
          have d54 : ThreeOk g k xs a b c ax bx cx S1 S2 S3 14 (z.tmps.getD 54 undef) v := hdep { on := 14, ground := .data } (by simp) rfl _ _ rfl rfl
          simp only [ThreeOk] at d54
          have e54 := d54
          rw [Array.getD_eq_getD_getElem?] at e54
          have d59 : ThreeOk g k xs a b c ax bx cx S1 S2 S3 19 (z.tmps.getD 59 undef) v := hdep { on := 19, ground := .data } (by simp) rfl _ _ rfl rfl
          simp only [ThreeOk] at d59
          have e59 := d59
          rw [Array.getD_eq_getD_getElem?] at e59
          have ex := u32_xor_nat (S1 ^^^ S2) S3 hlt12 hlt3
          clear hdep hag
          go_simp
          exact hK _ _ (Below.refl _ _) rfl
        · intro z v hz hag hdep
          refine .inl ⟨rfl, fun K hK => ?_⟩
          have d43 : ThreeOk g k xs a b c ax bx cx S1 S2 S3 3 (z.tmps.getD 43 undef) v := hdep { on := 3, ground := .data } (by simp) rfl _ _ rfl rfl
          simp only [ThreeOk] at d43
          have e43 := d43
          rw [Array.getD_eq_getD_getElem?] at e43
          have d60 : ThreeOk g k xs a b c ax bx cx S1 S2 S3 20 (z.tmps.getD 60 undef) v := hdep { on := 20, ground := .data } (by simp) rfl _ _ rfl rfl
          simp only [ThreeOk] at d60
          have e60 := d60
          rw [Array.getD_eq_getD_getElem?] at e60
          clear hdep hag
          go_simp
          exact hK _ _ (Below.refl _ _) rfl
        · intro z v hz hag hdep
          refine .inl ⟨rfl, fun K hK => ?_⟩
          have d61 : ThreeOk g k xs a b c ax bx cx S1 S2 S3 21 (z.tmps.getD 61 undef) v := hdep { on := 21, ground := .data } (by simp) rfl _ _ rfl rfl
          simp only [ThreeOk] at d61
          have e61 := d61
          rw [Array.getD_eq_getD_getElem?] at e61
          clear hdep hag
          go_simp
          exact hK _ _ (Below.refl _ _) rfl
      case hdone =>
        intro z v hz hag hall
        have d6 : ThreeOk g k xs a b c ax bx cx S1 S2 S3 22 (z.tmps.getD 6 undef) v := hall 22 _ 6 rfl rfl
        simp only [ThreeOk] at d6
        have hdef := hag.1
        go_wp2
        exact bodyPost_ret (results_tmp rfl _ _ _) hdef ⟨congrArg Ending.returned d6, HB.out.trans (hz.mono HB.out.size)⟩

namespace SumThreeDone
open Go.ChangeMaps (open_string shut_string)
theorem contract (H : Type) (enc : TypeId × Value → H) (W : World) (base : Nat) (args : Array Value) (ds gs : List (DataW H)) (before : List MemPlace)
    (hval : ∀ (j : Nat) t v, Tryd.f6.params[j]? = some t → args[j]? = some v → Value.okWide Tryd.prog W .any base t v)
    (hW : DataW.Whole enc Tryd.prog Tryd.f6.params.toList Rows.sumThreeSpec.vars false W args.toList ds gs before) (hL : laidMetH Tryd.prog Rows.sumThreeRow.laid W) :
    Calls Tryd.prog 6 args W fun e W' => ∃ v, e = .returned v ∧ Rows.sumThreeSpec.post enc Tryd.prog Tryd.f6 false true false false W args v W' := by
  have hW' := hW
  obtain ⟨p, q, hA0, hV, rfl, hfz, hnd⟩ := hW
  have hA : DataW.TrodAll enc Tryd.prog W 0 (fun _ => true) true Tryd.f6.params.toList args.toList ds p := hA0
  rw [Tryd.params6] at hA hval
  obtain ⟨v0, vs0, d0, ds0, p0, q0, hargs, rfl, rfl, h0, r0⟩ := trodAll_cons hA
  obtain ⟨v1, vs1, d1, ds1, p1, q1, rfl, rfl, rfl, h1, r1⟩ := trodAll_cons r0
  obtain ⟨v2, vs2, d2, ds2, p2, q2, rfl, rfl, rfl, h2, r2⟩ := trodAll_cons r1
  obtain ⟨rfl, rfl, rfl⟩ := trodAll_nil r2
  obtain rfl : args = #[v0, v1, v2] := by cases args; simp_all
  obtain ⟨rfl, rfl⟩ := trodVars_none hV
  obtain ⟨s0, rfl, rfl, rfl, w0⟩ := open_string Tryd.underlying9 (hval 0 9 v0 rfl rfl) h0
  obtain ⟨s1, rfl, rfl, rfl, w1⟩ := open_string Tryd.underlying9 (hval 1 9 v1 rfl rfl) h1
  obtain ⟨s2, rfl, rfl, rfl, w2⟩ := open_string Tryd.underlying9 (hval 2 9 v2 rfl rfl) h2
  clear hA0
  simp only [List.append_nil] at hW'
  refine (three_walk s0 s1 s2 (by unfold maxLen at w0; omega) (by unfold maxLen at w1; omega) (by unfold maxLen at w2; omega) W (tab_laid hL)).mono fun e W' ⟨he, bel⟩ => ?_
  subst he
  exact ⟨_, rfl, _, _, _, [], [], [], hW', trodAll_mk1 (shut_bool Tryd.underlying4 _), (trodAll_cons_mk (shut_string Tryd.underlying9 w0) (trodAll_cons_mk (shut_string Tryd.underlying9 w1) (trodAll_cons_mk (shut_string Tryd.underlying9 w2) trodAll_mk0))), rfl, bel.frame _, fun h => by cases h⟩

/-- A WORLD FOR THE WITNESS: the settled one, the table (block 0) holding what its initialiser lays. -/
noncomputable def laidWorld (os : Os) : World :=
  { World.holding Tryd.prog os ⟨#[], #[], []⟩ with heap := (World.holding Tryd.prog os ⟨#[], #[], []⟩).heap.modify 0 fun
      | .cells _ t frozen => .cells ((halfInts.map fun z => Value.int .u32 z).toArray) t frozen
      | o => o }
theorem laid_met (os : Os) : laidMet Tryd.prog Rows.sumThreeRow.laid ((laidWorld os).forCall (fun _ _ => 0) ⟨#[], #[.string ⟨#[]⟩, .string ⟨#[]⟩, .string ⟨#[]⟩], []⟩).memory :=
  laidMet_of_run' 8 (by kernel_rfl) (by kernel_rfl)
theorem reads (os : Os) {H : Type} (enc : TypeId × Value → H) : ∃ places, DataW.whole enc Tryd.prog ((laidWorld os).forCall (fun _ _ => 0) ⟨#[], #[.string ⟨#[]⟩, .string ⟨#[]⟩, .string ⟨#[]⟩], []⟩).memory Tryd.f6.params.toList Rows.sumThreeSpec.vars false #[Value.string ⟨#[]⟩, .string ⟨#[]⟩, .string ⟨#[]⟩].toList 8 = some ([.lit (.string []), .lit (.string []), .lit (.string [])], [], places) :=
  ⟨[], by kernel_rfl⟩

set_option maxRecDepth 100000 in
theorem lifted (os : Os) (started : os.Started) (H : Type) (enc : TypeId × Value → H) (F : Stop.Interp) :
    ReturnsInHanded {} Tryd.checked os 6 .any ((OpenSpec.ofChange Rows.sumThreeSpec).preRow enc Tryd.prog Tryd.f6 Rows.sumThreeRow.domain false Rows.sumThreeRow.laid) (((OpenSpec.ofChange Rows.sumThreeSpec).at F).post enc Tryd.prog Tryd.f6 false true false false) := by
  obtain ⟨places, hx⟩ := reads os enc
  refine returnsInHanded_of_row (C := Tryd.checked) (s := OpenSpec.ofChange Rows.sumThreeSpec) ownKnobNone started (by kernel_rfl) Tryd.func6
    (witness_row_at (enc := enc) (C := Tryd.checked) false (laidWorld os) #[.string ⟨#[]⟩, .string ⟨#[]⟩, .string ⟨#[]⟩] rfl (by kernel_rfl) (by kernel_rfl) (by kernel_rfl)
      (OpenSpec.preRow_of_cond 8 hx (by kernel_rfl) (fun k hk => by cases hk) (by kernel_rfl) (laid_met os))) ?_
  intro W base args ds gs before hval hW _ _ _ hL _ _
  exact contract H enc W base args ds gs before hval hW hL

theorem said : Rows.SumThreeSaid :=
  OpenClaim.holds_of_cond 6 Tryd.f6 rfl rfl rfl rfl rfl rfl rfl ⟨rfl, rfl, rfl, rfl, rfl⟩ rfl rfl rfl rfl rfl (by kernel_rfl) Tryd.func6 (by kernel_rfl)
    (of_decide_eq_true (by kernel_rfl)) (by unfold Func.isWrapper; first | (rw [if_pos (by decide +kernel)]; kernel_rfl) | (rw [if_neg (by decide +kernel)]; exact ⟨rfl, rfl⟩))
    (fun os started H enc _ F => by rw [OpenClaim.pre_eq_preRow]; exact lifted os started H enc F)

theorem plain (f : FuncId) (fn : Func) (hf : Tryd.pinned.checked.prog.funcNamed "tidewrack/tidewracklaw02.SumThree" = some f) (hfn : Tryd.pinned.checked.prog.funcs[f]? = some fn) :
    false = Tryd.pinned.checked.prog.looks [] ∧ ∀ (j : Nat) t, fn.params[j]? = some t → Tryd.pinned.checked.prog.wantsStandIn t = false := by
  obtain rfl : f = 6 := Option.some.inj ((show Tryd.prog.funcNamed "tidewrack/tidewracklaw02.SumThree" = some 6 by kernel_rfl).symm.trans hf) |>.symm
  obtain rfl : fn = Tryd.f6 := (Option.some.inj (Tryd.func6.symm.trans hfn)).symm
  refine ⟨by kernel_rfl, fun j t ht => ?_⟩
  rw [Tryd.params6] at ht
  have h3 : t = 9 := by simpa using Array.mem_of_getElem? ht
  subst h3
  exact (show Tryd.prog.wantsStandIn 9 = false by kernel_rfl)

theorem card : Rows.SumThreeCardSaid :=
  Claim7.holds_tied_plain_at .later [] _ _ _ _ said (fun _ h => by cases h) (by kernel_rfl) (fun _ h => by cases h) sumThree_row_tie rfl ⟨rfl, rfl⟩ (by kernel_rfl) rfl plain (by kernel_rfl)
end SumThreeDone
theorem SumThree_holds : Rows.SumThreeCardSaid := SumThreeDone.card
#print axioms SumThree_holds
end Go.Proofs.YthhaefcglhghfaaDoor
