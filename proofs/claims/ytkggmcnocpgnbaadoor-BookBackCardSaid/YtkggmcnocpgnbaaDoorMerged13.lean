/- The contracts of Out's other methods: Raw, Text, Bytes; and of Num as callers meet it. -/
import Derived.Test.YtkggmcnocpgnbaaDoorIOutNum
import Derived.Lib.AppendStr
import Derived.Lib.BufferRead
import Derived.Laws.IdiomStrings
import Derived.Test.YtkggmcnocpgnbaaDoorMerged11
import Derived.Laws.BitsLemmas
import Derived.Test.YtkggmcnocpgnbaaDoorRows
import Derived.WalkKit
import Derived.WalkLawsBesides
import Derived.WalkSpells
import Derived.Outline
import Derived.Lib.Hide
import Derived.Below
import Derived.IntWalk
import Derived.OwnWalk
namespace Go.Proofs.YtkggmcnocpgnbaaDoor.I
open Go.RowKit

/-- The cells hold texts. -/
def Strs (w : World) (b off : Nat) (ss : List ByteArray) : Prop := ∀ i, i < ss.length → w.cell? ⟨b, off + i, none⟩ = some (.string (ss.getD i ByteArray.empty))
def bytesOf (ss : List ByteArray) : List UInt8 := ss.flatMap fun s => s.data.toList
theorem bytesOf_snoc (ss : List ByteArray) (k : Nat) (h : k < ss.length) : bytesOf (ss.take (k + 1)) = bytesOf (ss.take k) ++ (ss.getD k ByteArray.empty).data.toList := by
  unfold bytesOf
  rw [List.take_succ_eq_append_getElem h, List.flatMap_append]
  simp [h]
/-- Where an Out is left: the same Out, with these bytes; all else as it was. -/
def Wrote (base B : Nat) (bs : List UInt8) (w : World) (e : Ending) (w' : World) : Prop := e = .returned (.pointer (some ⟨B, 0, none⟩)) ∧ OutAt base B bs w' ∧ Below base w w' ∧ Keeps B w w'
theorem num_any (base B bl off cap : Nat) (zs : List Int) (bs : List UInt8) (w : World) (hsz : (bs.length : Int) + 10 * zs.length ≤ 1000000) (hbase : base ≤ B)
    (hO : OutAt base B bs w) (hI : ∀ w', Below base w w' → Keeps B w w' → Ints w' bl off zs) (hbw : base ≤ w.heap.size) :
    Calls Tryd.prog 55 #[.pointer (some ⟨B, 0, none⟩), .slice (some ⟨bl, off, none⟩) zs.length cap] w (Wrote base B (bs ++ numsOf zs) w) :=
  (callsIn_wide (n := 4)).1 (outnum_in 4 (Nat.le_refl _) base B bl off zs.length cap zs bs w rfl hsz hbase hO hI hbw)

theorem cell_alloc_new (w : World) (cs : Array Value) (t : TypeId) (j : Nat) : (w.alloc (.cells cs t)).cell? ⟨w.heap.size, j, none⟩ = cs[j]? := World.cell?_alloc_new ..
/-- What lies in a new block of another type is kept. -/
theorem cell_keeps {B b o : Nat} {w w' : World} {cs : Array Value} {t : TypeId} {fr : Nat × Nat} (hk : Keeps B w w') (hb : w.heap[b]? = some (.cells cs t fr)) (ht : t ≠ 5) (hne : b ≠ B) : w'.cell? ⟨b, o, none⟩ = w.cell? ⟨b, o, none⟩ := by
  have h := hk.block b _ hb hne (fun cur fr' e => by cases e; exact ht rfl)
  exact World.cell?_of_block (a := ⟨b, o, none⟩) (h.trans hb.symm)
theorem block_new (w : World) (o : Obj) : (w.alloc o).heap[w.heap.size]? = some o := World.alloc_heap_new w o
theorem OutAt.lt {base B : Nat} {bs : List UInt8} {w : World} (h : OutAt base B bs w) : B < w.heap.size := by
  obtain ⟨v, h1, _⟩ := h
  exact h1.lt
theorem OutAt.alloc {base B : Nat} {bs : List UInt8} {w : World} (h : OutAt base B bs w) (o : Obj) : OutAt base B bs (w.alloc o) := by
  obtain ⟨v, h1, h2⟩ := h
  exact ⟨v, h1.alloc _, h2.alloc _⟩
/-- One number, in a new slice. -/
theorem num_one (base B : Nat) (z : Int) (bs : List UInt8) (w : World) (hsz : (bs.length : Int) ≤ 999990) (hbase : base ≤ B) (hO : OutAt base B bs w) (hbw : base ≤ w.heap.size) :
    Calls Tryd.prog 55 #[.pointer (some ⟨B, 0, none⟩), .slice (some ⟨w.heap.size, 0, none⟩) 1 1] (w.alloc (.cells #[.int .i64 z] 3)) (Wrote base B (bs ++ digs (clipN z)) (w.alloc (.cells #[.int .i64 z] 3))) := by
  have h := num_any base B w.heap.size 0 1 [z] bs (w.alloc (.cells #[.int .i64 z] 3)) (by simp; omega) hbase (hO.alloc _) (fun w' _ hk i hi => by
    obtain rfl : i = 0 := by simpa using hi
    rw [cell_keeps hk (block_new w _) (by decide) (by have := hO.lt; omega), cell_alloc_new]; rfl) (by simp; omega)
  simpa [numsOf] using h

theorem bytes_any (base B : Nat) (bs : List UInt8) (w : World) (hO : OutAt base B bs w) :
    Calls Tryd.prog 56 #[.pointer (some ⟨B, 0, none⟩)] w fun e w' => e = .returned (.string ⟨bs.toArray⟩) ∧ w = w' := by
  obtain ⟨v, hv, hr⟩ := hO
  have hcB := hv.cell
  have hcells := @World.ownsRow.cells _ _ _ _ _ _ _ hr
  rcases hr.2 with ⟨rfl, h0⟩ | ⟨g, cap, cur, rfl, _⟩
  · have hconv := Lib.run_convert_nil_bytes (P := Tryd.prog) w 116 9 5 0 Tryd.underlying116 Tryd.underlying5 Tryd.underlying9
    have hb0 : bs = [] := List.length_eq_zero_iff.1 h0
    subst hb0
    clear hr hcells hv h0
    go_enter Tryd.func56, Tryd.ntmps56
    go_wp2
    go_ret
    exact ⟨rfl, rfl⟩
  · have hconv := run_convert_bytes_back (P := Tryd.prog) w 116 9 5 ⟨g, 0, none⟩ cap bs Tryd.underlying116 Tryd.underlying5 Tryd.underlying9 (fun j hj => hcells (g := g) rfl j _ (by simp [c5, hj]))
    obtain ⟨u, hu⟩ : ∃ u : ByteArray, (⟨bs.toArray⟩ : ByteArray) = u := ⟨_, rfl⟩
    rw [hu] at hconv ⊢
    obtain ⟨m, hm⟩ : ∃ m, bs.length = m := ⟨_, rfl⟩
    rw [hm] at hconv hcB
    clear hr hcells hv hu hm
    go_enter Tryd.func56, Tryd.ntmps56
    go_wp2
    go_ret
    exact ⟨rfl, rfl⟩

end Go.Proofs.YtkggmcnocpgnbaaDoor.I

/- Plain facts on reading a number: what was written is read, and what is read was written so. No Go here. -/
namespace Go.Proofs.YtkggmcnocpgnbaaDoor.I

/-- A number's bytes, read from place i on, n having come: the number, how many bytes it has, the error (1: the form; 2: the end). -/
def scan : List UInt8 → Nat → Nat → Nat × Nat × Nat
  | [], i, _ => if 9 ≤ i then (0, 0, 1) else (0, 0, 2)
  | b :: r, i, n => if 9 ≤ i then (0, 0, 1) else if 128 ≤ b.toNat then scan r (i + 1) (n + b.toNat % 128 * 128 ^ i)
      else if (0 < i ∧ b.toNat = 0) ∨ top < n + b.toNat % 128 * 128 ^ i then (0, 0, 1) else (n + b.toNat % 128 * 128 ^ i, i + 1, 0)
def firstS (l : List UInt8) : Nat × Nat × Nat := scan l 0 0

theorem scan_digs : ∀ (m i n : Nat) (r : List UInt8), n + m * 128 ^ i ≤ top → i + (digs m).length ≤ 9 → (i = 0 ∨ 0 < m) → scan (digs m ++ r) i n = (n + m * 128 ^ i, i + (digs m).length, 0) := by
  intro m
  induction m using Nat.strongRecOn with
  | ind m ih =>
    intro i n r h9 hl h0
    have hp := digs_pos m
    by_cases hb : m < 128
    · rw [digs_small hb]
      have e : (UInt8.ofNat m).toNat = m := by simp; omega
      simp only [List.cons_append, List.nil_append, scan, e]
      rw [if_neg (by omega), if_neg (by omega), Nat.mod_eq_of_lt hb, if_neg (by omega)]
      simp
    · rw [digs_big hb]
      have e : (UInt8.ofNat (m % 128 + 128)).toNat = m % 128 + 128 := by simp; omega
      have hl2 : (digs m).length = (digs (m / 128)).length + 1 := by rw [digs_big hb]; simp
      have key : n + m % 128 * 128 ^ i + m / 128 * 128 ^ (i + 1) = n + m * 128 ^ i := by
        have : m / 128 * 128 ^ (i + 1) = (m / 128 * 128) * 128 ^ i := by rw [Nat.pow_succ, Nat.mul_comm (128 ^ i) 128, Nat.mul_assoc]
        rw [this, Nat.add_assoc, ← Nat.add_mul]
        congr 2
        omega
      simp only [List.cons_append, scan, e]
      rw [if_neg (by omega), if_pos (by omega), show (m % 128 + 128) % 128 = m % 128 from by omega, ih (m / 128) (by omega) (i + 1) _ r (by omega) (by omega) (.inr (by omega)), key]
      simp
      omega
theorem first_digs (m : Nat) (r : List UInt8) (h : m ≤ top) : firstS (digs m ++ r) = (m, (digs m).length, 0) := by
  have := scan_digs m 0 0 r (by simpa using h) (by have := digs_nine m h; omega) (.inl rfl)
  simpa [firstS] using this
theorem scan_only : ∀ (l : List UInt8) (i n v sz : Nat), scan l i n = (v, sz, 0) → ∃ m, v = n + m * 128 ^ i ∧ l.take (sz - i) = digs m ∧ (0 < m ∨ i = 0) ∧ v ≤ top ∧ i < sz ∧ sz - i ≤ l.length
  | [], i, n, v, sz, h => by
    unfold scan at h
    split at h <;> cases h
  | b :: r, i, n, v, sz, h => by
    unfold scan at h
    split at h
    · cases h
    · split at h
      · rename_i h9 h128
        obtain ⟨m, hv, ht, hm, htop, hlt, hle⟩ := scan_only r (i + 1) _ v sz h
        have hb := b.toNat_lt
        have hm0 : 0 < m := hm.resolve_right (by omega)
        have hbig : ¬ m * 128 + b.toNat % 128 < 128 := by omega
        refine ⟨m * 128 + b.toNat % 128, ?_, ?_, .inl (by omega), htop, by omega, by simp; omega⟩
        · rw [hv, Nat.pow_succ, Nat.add_mul, Nat.mul_assoc m 128, Nat.mul_comm 128 (128 ^ i)]
          omega
        · rw [digs_big hbig, show sz - i = (sz - (i + 1)) + 1 from by omega, List.take_succ_cons, ht]
          congr 1
          · have e : (m * 128 + b.toNat % 128) % 128 + 128 = b.toNat := by omega
            rw [e]; simp
          · congr 1; omega
      · split at h
        · cases h
        · rename_i h9 h128 hf
          cases h
          have hb := b.toNat_lt
          refine ⟨b.toNat, by rw [Nat.mod_eq_of_lt (by omega)], ?_, ?_, by omega, by omega, by simp⟩
          · rw [digs_small (by omega), show i + 1 - i = 1 from by omega]; simp
          · omega
theorem first_only {l : List UInt8} {v sz : Nat} (h : firstS l = (v, sz, 0)) : l.take sz = digs v ∧ v ≤ top ∧ 0 < sz ∧ sz ≤ l.length := by
  obtain ⟨m, hv, ht, _, htop, hlt, hle⟩ := scan_only l 0 0 v sz h
  have : m = v := by simpa using hv.symm
  subst this
  exact ⟨by simpa using ht, htop, hlt, by simpa using hle⟩
/-- seven bits more -/
theorem or_seven (N x k : Nat) (hN : N < 128 ^ k) (hk : k < 9) (hx : x < 128) : bits .or .i64 (N : Int) (((x * 128 ^ k : Nat)) : Int) = ((N + x * 128 ^ k : Nat) : Int) := by
  have e : 128 ^ k = 2 ^ (7 * k) := by rw [show (128 : Nat) = 2 ^ 7 from rfl, ← Nat.pow_mul]
  have h63 : 128 ^ k * 128 ≤ 2 ^ 63 := by
    rw [e, show (128 : Nat) = 2 ^ 7 from rfl, ← Nat.pow_add]
    exact Nat.pow_le_pow_right (by decide) (by omega)
  have hb : x * 128 ^ k < 2 ^ 63 := Nat.lt_of_lt_of_le (Nat.mul_lt_mul_of_pos_right hx (Nat.pow_pos (by decide))) (by rw [Nat.mul_comm]; exact h63)
  have ha : N < 2 ^ 63 := by
    have : 128 ^ k ≤ 128 ^ k * 128 := Nat.le_mul_of_pos_right _ (by decide)
    omega
  have h := (bits_nat .i64 63 (by decide) (fun n h0 h1 => by
    simp [IntKind.wrap, IntKind.bits, IntKind.signed]
    omega) N (x * 128 ^ k) ha hb).2
  rw [h]
  congr 1
  rw [e, Nat.mul_comm x, Nat.or_comm, Nat.add_comm]
  exact (Nat.two_pow_add_eq_or_of_lt (by rw [← e]; exact hN) x).symm
end Go.Proofs.YtkggmcnocpgnbaaDoor.I

/- The contracts of num.first and of In's methods. -/
namespace Go.Proofs.YtkggmcnocpgnbaaDoor.I
open Go.RowKit

theorem drop_cons (s : ByteArray) (k : Nat) (h : k < s.size) : s.data.toList.drop k = s[k] :: s.data.toList.drop (k + 1) := by
  rw [List.drop_eq_getElem_cons (by show k < s.size; exact h)]; rfl
theorem or_shift (N x k : Nat) (hN : N < 128 ^ k) (hk : k < 9) (hx : x < 128) : ∃ Z : Nat, bits .or .i64 (N : Int) (wrap64 ((x : Int) * 2 ^ (7 * k))) = (Z : Int) ∧ (Z : Int) ≤ 9223372036854775807 ∧ Hid (Z = N + x * 128 ^ k ∧ Z < 128 ^ (k + 1)) := by
  have e : 128 ^ k = 2 ^ (7 * k) := by rw [show (128 : Nat) = 2 ^ 7 from rfl, ← Nat.pow_mul]
  have h63 : 128 ^ k * 128 ≤ 2 ^ 63 := by
    rw [e, show (128 : Nat) = 2 ^ 7 from rfl, ← Nat.pow_add]
    exact Nat.pow_le_pow_right (by decide) (by omega)
  have hmul : x * 128 ^ k ≤ 127 * 128 ^ k := Nat.mul_le_mul_right _ (by omega)
  have hlt : N + x * 128 ^ k < 128 ^ (k + 1) := by rw [Nat.pow_succ]; omega
  have hs : N + x * 128 ^ k < 2 ^ 63 := by rw [Nat.pow_succ] at hlt; omega
  refine ⟨N + x * 128 ^ k, ?_, by omega, Lib.hid ⟨rfl, hlt⟩⟩
  rw [← or_seven N x k hN hk hx]
  congr 1
  have hc : ((x : Int) * 2 ^ (7 * k)) = ((x * 128 ^ k : Nat) : Int) := by rw [e, Int.natCast_mul, Int.natCast_pow]; rfl
  rw [hc]
  exact IntWalk.wrap64_in _ ⟨by omega, by omega⟩

set_option maxRecDepth 100000 in
set_option maxHeartbeats 1000000 in
theorem first_any (s : ByteArray) (hs : (s.size : Int) ≤ 1000000) (v sz e : Nat) (hsc : firstS s.data.toList = (v, sz, e)) (w : World) :
    Calls Tryd.prog 111 #[.string s] w fun en w' => en = .returned (.tuple #[.int .i64 v, .int .i64 sz, .int .i64 e]) ∧ w = w' := by
  have HS := Lib.hid hsc
  clear hsc
  obtain ⟨M, hM⟩ : ∃ M : Nat, (M : Int) = min (s.size : Int) 9 := ⟨min s.size 9, by omega⟩
  have hM9 : (M : Int) ≤ 9 := by omega
  have hMs : (M : Int) ≤ s.size := by omega
  have HM := Lib.hid hM
  have hmn : (if (9 : Int) < s.size then (9 : Int) else s.size) = (M : Int) := by by_cases h : (9 : Int) < s.size <;> simp [h] <;> omega
  clear hM
  go_enter Tryd.func111, Tryd.ntmps111
  go_wp2
  go_loop [5, 11] (fun c i => ∃ k N : Nat, k ≤ M ∧ i = .int .i64 k ∧ c = .int .i64 N ∧ (N : Int) ≤ 9223372036854775807 ∧ Hid (N < 128 ^ k ∧ scan (s.data.toList.drop k) k N = (v, sz, e))) (fun _ i => M - (intOf i).toNat)
  case atStart => exact ⟨0, 0, by omega, rfl, rfl, by omega, Lib.hid ⟨by decide, by have := HS.out; simpa [firstS] using this⟩⟩
  case round =>
    obtain ⟨k, N, hk, rfl, rfl, hN, hF⟩ := hrel
    by_cases hlt : k < M
    · have hks : k < s.size := by omega
      have hb : (s[k].toNat : Int) < 256 := by have := s[k].toNat_lt; omega
      have e1 : bits .and .u8 (s[k].toNat : Int) 127 = ((s[k].toNat % 128 : Nat) : Int) := by
        have := bits_mask .u8 8 (by decide) wraps_u8 7 (by decide) (s[k].toNat : Int) (by omega) (by omega)
        simpa using this
      obtain ⟨x, hx⟩ : ∃ x : Nat, s[k].toNat % 128 = x := ⟨_, rfl⟩
      rw [hx] at e1
      have hx128 : (x : Int) < 128 := by omega
      have HX := Lib.hid hx
      clear hx
      obtain ⟨Z, e2, hZ63, hZ⟩ := or_shift N x k hF.out.1 (by omega) (by omega)
      have hstep : scan (s[k] :: s.data.toList.drop (k + 1)) k N = (v, sz, e) := by
        have h := hF.out.2
        rwa [drop_cons s k hks] at h
      simp only [scan] at hstep
      rw [if_neg (by omega), HX.out, ← hZ.out.1] at hstep
      have HSt := Lib.hid hstep
      clear hstep
      by_cases h128 : 128 ≤ (s[k].toNat : Int)
      · have h2 := HSt.out
        rw [if_pos (by omega)] at h2
        have H2 := Lib.hid h2
        clear h2
        go_wp2
        go_round
        case rel => exact ⟨k + 1, Z, by omega, by go_num, rfl, hZ63, Lib.hid ⟨hZ.out.2, H2.out⟩⟩
        case measure => simp [intOf]; omega
      · have h2 := HSt.out
        rw [if_neg (by omega)] at h2
        by_cases hbad : 0 < k ∧ s[k].toNat = 0
        · rw [if_pos (.inl hbad)] at h2
          obtain ⟨hk0, hb0⟩ := hbad
          have hb0' : ((s[k].toNat : Int) == 0) = true := by rw [beq_iff_eq]; omega
          have H2 := Lib.hid h2
          clear h2 hb0
          go_wp2
          all_goals go_ret3
          all_goals (have h := H2.out; cases h; exact ⟨rfl, rfl⟩)
        · by_cases htop : top < Z
          · rw [if_pos (.inr htop)] at h2
            have H2 := Lib.hid h2
            have htop' : (4611686018427387904 : Int) < Z := by unfold top at htop; omega
            clear h2 htop
            by_cases hk0 : 0 < k
            · have hb0' : ((s[k].toNat : Int) == 0) = false := by rw [beq_eq_false_iff_ne]; omega
              clear hbad
              go_wp2
              all_goals go_ret3
              all_goals (have h := H2.out; cases h; exact ⟨rfl, rfl⟩)
            · clear hbad
              go_wp2
              all_goals go_ret3
              all_goals (have h := H2.out; cases h; exact ⟨rfl, rfl⟩)
          · rw [if_neg (by omega)] at h2
            have H2 := Lib.hid h2
            have htop' : (Z : Int) ≤ 4611686018427387904 := by unfold top at htop; omega
            clear h2 htop
            by_cases hk0 : 0 < k
            · have hb0' : ((s[k].toNat : Int) == 0) = false := by rw [beq_eq_false_iff_ne]; omega
              clear hbad
              go_wp2
              all_goals go_ret3
              all_goals (have h := H2.out; cases h; exact ⟨by simp, rfl⟩)
            · clear hbad
              go_wp2
              all_goals go_ret3
              all_goals (have h := H2.out; cases h; exact ⟨by simp, rfl⟩)
    · obtain rfl : k = M := by omega
      have hend := hF.out.2
      by_cases h9 : 9 ≤ (s.size : Int)
      · have hk9 : k = 9 := by have := HM.out; omega
        have hres : (0, 0, 1) = (v, sz, e) := by
          rw [← hend, hk9]
          cases s.data.toList.drop 9 <;> simp [scan]
        have HR := Lib.hid hres
        clear hres hk9 hend
        go_wp2
        all_goals go_ret3
        all_goals (have h := HR.out; cases h; exact ⟨rfl, rfl⟩)
      · have hks : k = s.size := by have := HM.out; omega
        have hres : (0, 0, 2) = (v, sz, e) := by
          rw [← hend, List.drop_of_length_le (by show s.size ≤ k; omega)]
          simp [scan]
          omega
        have HR := Lib.hid hres
        clear hres hks hend
        go_wp2
        all_goals go_ret3
        all_goals (have h := HR.out; cases h; exact ⟨rfl, rfl⟩)
end Go.Proofs.YtkggmcnocpgnbaaDoor.I
