/- The program's grid: are two alike? -/
import Derived.Test.YtkggmcnocpgnbaaDoorJSev
import Derived.Test.YtkggmcnocpgnbaaDoorVSame
import Derived.Lib.QuietBelow
import Derived.BigQuiet
import Derived.Test.YtkggmcnocpgnbaaDoorKFill
import Derived.Test.YtkggmcnocpgnbaaDoorMerged4
namespace Go.Proofs.YtkggmcnocpgnbaaDoor.K
open Go.RowKit

theorem takeR_one {α : Type} (l : List α) (j : Nat) (h : j < l.length) : l.take (j + 1) = l.take j ++ [l[j]] := by rw [List.take_add_one, List.getElem?_eq_getElem h]; rfl
set_option maxRecDepth 100000 in
set_option maxHeartbeats 4000000 in
theorem eqRows_any {a1 a2 : Option Addr} {n1 c1 n2 c2 : Nat} {us1 us2 : List Rv} {rs1 rs2 : List Ro} (w : World) (h1 : RvsIn a1 n1 c1 us1 w) (h2 : RvsIn a2 n2 c2 us2 w) (v1 : RowsV .i32 us1 rs1 w) (v2 : RowsV .i32 us2 rs2 w) (hl1 : ∀ r ∈ rs1, r.l.length ≤ 1000) (hl2 : ∀ r ∈ rs2, r.l.length ≤ 1000) (hn1 : n1 ≤ 1000) (hn2 : n2 ≤ 1000) :
    Calls Tryd.prog 81 #[.slice a1 n1 c1, .slice a2 n2 c2, .func (.func 42) #[] #[]] w fun e w' => e = .returned (.bool (decide (rs1 = rs2))) ∧ Below w.heap.size w w' := by
  obtain ⟨rb, hrb⟩ : ∃ rb, w.heap.size = rb := ⟨_, rfl⟩
  rw [hrb]
  obtain ⟨D, hD⟩ : ∃ D, decide (rs1 = rs2) = D := ⟨_, rfl⟩
  obtain ⟨P, hP⟩ : ∃ P : Ending → World → Prop, (fun e w' => e = .returned (.bool D) ∧ Below rb w w') = P := ⟨_, rfl⟩
  rw [hD, hP]
  have HP := Lib.hid hP
  have HD := Lib.hid hD
  have HL1 : Hid (n1 = rs1.length) := Lib.hid (h1.len.trans v1.1)
  have HL2 : Hid (n2 = rs2.length) := Lib.hid (h2.len.trans v2.1)
  have H1 := Lib.hid h1
  have H2 := Lib.hid h2
  have HV1 := Lib.hid v1
  have HV2 := Lib.hid v2
  have HR1 := Lib.hid hl1
  have HR2 := Lib.hid hl2
  have HRb := Lib.hid hrb
  by_cases hnn : n1 = n2
  · subst hnn
    have q1 : ((n1 : Int) != (n1 : Int)) = false := by simp
    clear hP hD h1 h2 v1 v2 hl1 hl2 hrb hn2
    go_enter Tryd.func81, Tryd.ntmps81
    go_wp2_with fail
    go_loopw [17] (fun i wr => ∃ j : Nat, i = .int .i64 (j : Int) ∧ j ≤ n1 ∧ Hid (rs1.take j = rs2.take j ∧ Below rb w wr)) (fun i _ => n1 - (intOf i).toNat)
    case atStart => exact ⟨0, rfl, by omega, Lib.hid ⟨by simp, Below.refl _ _⟩⟩
    case round =>
      obtain ⟨j, rfl, hj, HF⟩ := hrel
      by_cases hlt : j < n1
      · have hd : decide (j < n1) = true := by simp; omega
        have hj1 : j < rs1.length := by rw [← HL1.out]; exact hlt
        have hj2 : j < rs2.length := by rw [← HL2.out]; exact hlt
        have hu1 : j < us1.length := by rw [HV1.out.1]; exact hj1
        have hu2 : j < us2.length := by rw [HV2.out.1]; exact hj2
        obtain ⟨b1, o1, rfl, hb1, hA1⟩ := H1.out.at_.resolve_left (by intro e; rw [e] at hu1; simp at hu1)
        obtain ⟨b2, o2, rfl, hb2, hA2⟩ := H2.out.at_.resolve_left (by intro e; rw [e] at hu2; simp at hu2)
        have hbw : Below w.heap.size w wr := by rw [HRb.out]; exact HF.out.2
        have hat1 := hA1 j us1[j] (List.getElem?_eq_getElem hu1)
        have hat2 := hA2 j us2[j] (List.getElem?_eq_getElem hu2)
        have hr1 := (HV1.out.2 j us1[j] rs1[j] (List.getElem?_eq_getElem hu1) (List.getElem?_eq_getElem hj1)).belowAll hbw
        have hr2 := (HV2.out.2 j us2[j] rs2[j] (List.getElem?_eq_getElem hu2) (List.getElem?_eq_getElem hj2)).belowAll hbw
        have hs1 := takeR_one rs1 j hj1
        have hs2 := takeR_one rs2 j hj2
        have hm1 := HR1.out rs1[j] (List.getElem_mem hj1)
        have hm2 := HR2.out rs2[j] (List.getElem_mem hj2)
        obtain ⟨⟨x1, m1, y1, g1⟩, hx1⟩ : ∃ k, us1[j] = k := ⟨_, rfl⟩
        obtain ⟨⟨x2, m2, y2, g2⟩, hx2⟩ : ∃ k, us2[j] = k := ⟨_, rfl⟩
        obtain ⟨r1, hre1⟩ : ∃ k, rs1[j] = k := ⟨_, rfl⟩
        obtain ⟨r2, hre2⟩ : ∃ k, rs2[j] = k := ⟨_, rfl⟩
        rw [hx1] at hat1 hr1
        rw [hx2] at hat2 hr2
        rw [hre1] at hr1 hs1 hm1
        rw [hre2] at hr2 hs2 hm2
        have p0 : wr.cell? ⟨b1, o1 + j * 2, none⟩ = some (.slice x1 m1 y1) := (World.cell?_of_block (a := ⟨b1, o1 + j * 2, none⟩) (hbw.block b1 hb1)).trans hat1.1
        have p1 : wr.cell? ⟨b1, o1 + j * 2 + 1, none⟩ = some (.bool g1) := (World.cell?_of_block (a := ⟨b1, o1 + j * 2 + 1, none⟩) (hbw.block b1 hb1)).trans hat1.2
        have p2 : wr.cell? ⟨b2, o2 + j * 2, none⟩ = some (.slice x2 m2 y2) := (World.cell?_of_block (a := ⟨b2, o2 + j * 2, none⟩) (hbw.block b2 hb2)).trans hat2.1
        have p3 : wr.cell? ⟨b2, o2 + j * 2 + 1, none⟩ = some (.bool g2) := (World.cell?_of_block (a := ⟨b2, o2 + j * 2 + 1, none⟩) (hbw.block b2 hb2)).trans hat2.2
        have hX : b1 < wr.heap.size := Nat.lt_of_lt_of_le hb1 hbw.size
        have hY : b2 < wr.heap.size := Nat.lt_of_lt_of_le hb2 hbw.size
        obtain ⟨w1, hw1⟩ : ∃ w1, wr.alloc (.cells #[.slice x1 m1 y1, .bool g1] 27) = w1 := ⟨_, rfl⟩
        obtain ⟨w2, hw2⟩ : ∃ w2, w1.alloc (.cells #[.slice x2 m2 y2, .bool g2] 27) = w2 := ⟨_, rfl⟩
        have hbb : Below wr.heap.size wr w2 := by rw [← hw2, ← hw1]; exact ((Below.refl _ _).alloc (Nat.le_refl _) _).alloc (by simp) _
        have hr1' := hr1.belowAll hbb
        have hr2' := hr2.belowAll hbb
        unfold Rv.val at hr1' hr2'
        simp only at hr1' hr2'
        obtain ⟨hg1, hi1, -, -, -, hk1⟩ := hr1'.of
        obtain ⟨hg2, hi2, -, -, -, hk2⟩ := hr2'.of
        have HS := Lib.hid (rowSame_any x1 x2 m1 m2 y1 y2 g1 g2 r1.l r2.l w2 hi1 hi2 (by omega) (by omega))
        have hee : (⟨r1.l, g1⟩ : Ro) = r1 := by rw [hg1]
        have hee2 : (⟨r2.l, g2⟩ : Ro) = r2 := by rw [hg2]
        rw [hee, hee2] at HS
        have HS1 := Lib.hid hs1
        have HS2 := Lib.hid hs2
        have HE1 := Lib.hid hre1
        have HE2 := Lib.hid hre2
        have HBb := Lib.hid hbb
        have HW1 := Lib.hid hw1
        have HW2 := Lib.hid hw2
        have HBw := Lib.hid hbw
        clear hA1 hA2 hat1 hat2 hr1 hr2 hs1 hs2 hm1 hm2 hx1 hx2 hre1 hre2 hb1 hb2 hw1 hw2 hbb hr1' hr2' hi1 hi2 hk1 hk2 hg1 hg2 hee hee2 hbw hu1 hu2
        by_cases hE : r1 = r2
        · have hde : decide (r1 = r2) = true := decide_eq_true hE
          rw [hde] at HS
          have HE := Lib.hid hE
          clear hE hde
          go_wp2_with fail
          first | rw [HW1.out, HW2.out] | skip
          refine HS.out.mono ?_
          rintro e w3 ⟨rfl, hb3⟩
          have HF3 : Hid (rs1.take (j + 1) = rs2.take (j + 1) ∧ Below rb w w3) := Lib.hid ⟨by rw [HS1.out, HS2.out, HF.out.1, HE.out], HF.out.2.trans ((HBb.out.trans (hb3.mono HBb.out.size)).mono (by have := HBw.out.size; have := HRb.out; omega))⟩
          clear hb3
          go_wp2_with fail
          go_roundw
          case rel => exact ⟨j + 1, by go_num, by omega, HF3⟩
          case measure => simp [intOf]; omega
        · have hde : decide (r1 = r2) = false := decide_eq_false hE
          rw [hde] at HS
          have HE := Lib.hid hE
          clear hE hde
          go_wp2_with fail
          first | rw [HW1.out, HW2.out] | skip
          refine HS.out.mono ?_
          rintro e w3 ⟨rfl, hb3⟩
          have hne : D = false := by
            rw [← HD.out]
            refine decide_eq_false (fun e => HE.out ?_)
            subst e
            rw [← HE1.out, ← HE2.out]
          have HF3 : Hid (P (.returned (.bool false)) w3) := Lib.hid (by rw [← HP.out, hne]; exact ⟨rfl, HF.out.2.trans ((HBb.out.trans (hb3.mono HBb.out.size)).mono (by have := HBw.out.size; have := HRb.out; omega))⟩)
          clear hb3 hne
          go_wp2_with fail
          exact HF3.out
      · obtain rfl : j = n1 := by omega
        have hd : decide (j < j) = false := by simp
        have hd' : decide ((j : Int) < (j : Int)) = false := by simp
        go_wp2
        rw [← HP.out]
        obtain ⟨h3, h4⟩ := HF.out
        rw [List.take_of_length_le (by rw [← HL1.out]; exact Nat.le_refl _), List.take_of_length_le (by rw [← HL2.out]; exact Nat.le_refl _)] at h3
        exact ⟨by rw [← HD.out, h3]; simp, h4⟩
  · have q1 : ((n1 : Int) != (n2 : Int)) = true := by simp; omega
    have hne : D = false := by
      rw [← hD]
      refine decide_eq_false (fun e => hnn ?_)
      rw [HL1.out, HL2.out, e]
    clear hP hD h1 h2 v1 v2 hl1 hl2 hrb
    go_enter Tryd.func81, Tryd.ntmps81
    go_wp2
    rw [← HP.out, hne]
    exact ⟨rfl, Below.refl _ _⟩
set_option maxRecDepth 100000 in
set_option maxHeartbeats 4000000 in
theorem gsame_any {g q g2 q2 : Nat} {x y : Gd} (w : World) (h1 : Gr g q x w) (h2 : Gr g2 q2 y w) :
    Calls Tryd.prog 46 #[.pointer (some ⟨g, 0, none⟩), .pointer (some ⟨g2, 0, none⟩)] w fun e w' => e = .returned (.bool (decide (x.rs = y.rs))) ∧ Below w.heap.size w w' := by
  obtain ⟨us, cap, h1⟩ := h1
  obtain ⟨us2, cap2, h2⟩ := h2
  obtain ⟨D, hD⟩ : ∃ D, decide (x.rs = y.rs) = D := ⟨_, rfl⟩
  rw [hD]
  have cS : ∀ d os, Calls Tryd.prog 81 #[.slice (some ⟨q, 0, none⟩) us.length cap, .slice (some ⟨q2, 0, none⟩) us2.length cap2, .func (.func 42) #[] #[]] (Go.Sort.grow (redrawn w d) os) fun en w'' => en = .returned (.bool D) ∧ ∃ p : Regrown, w'' = Go.Sort.grow (redrawn w p.d) p.os := fun d os => by
    have hb := below_regrown w d os
    have h := eqRows_any (Go.Sort.grow (redrawn w d) os) (h1.rin.belowAll hb) (h2.rin.belowAll hb) (h1.rv.belowAll hb) (h2.rv.belowAll hb) (fun r hr => by rw [h1.ok.len r hr]; exact h1.ok.w2) (fun r hr => by rw [h2.ok.len r hr]; exact h2.ok.w2) h1.few.2 h2.few.2
    rw [hD] at h
    exact Calls.regrown_of h
  have z0 := fun d os => cell_regrown h1.c1 d os
  have z1 := fun d os => cell_regrown h2.c1 d os
  obtain ⟨m1, hm1⟩ : ∃ m, us.length = m := ⟨_, rfl⟩
  obtain ⟨m2, hm2⟩ : ∃ m, us2.length = m := ⟨_, rfl⟩
  rw [hm1] at cS z0
  rw [hm2] at cS z1
  have CS := Lib.hid cS
  clear cS h1 h2 hD hm1 hm2
  go_enter Tryd.func46, Tryd.ntmps46
  go_upto_region 1 with fail
  refine wp_region_quiet_below (by kernel_rfl) (by kernel_rfl) ?_
  repeat (go_big_quiet_step (first | exact CS.out _ _))
  refine wpQuiet_nil ?_
  intro _ hw'
  obtain ⟨⟨dq, osq⟩, hw''⟩ := hw'
  subst hw''
  go_wp2
  go_ret
  exact ⟨rfl, below_regrown _ _ _⟩
end Go.Proofs.YtkggmcnocpgnbaaDoor.K

/- Rows of the document's that are gathered, one behind the other. -/
namespace Go.Proofs.YtkggmcnocpgnbaaDoor.K
open Go.RowKit

theorem OwnC.rowVk {rk : IntKind} {T : TypeId} {base : Nat} {x : Option Addr} {n y : Nat} {r : Ro} {w : World} (h : OwnC rk T base (.slice x n y) r.l w) : RowV rk (.agg #[.slice x n y, .bool r.wrapped]) r w := by
  obtain ⟨a, c, e, h2, -, h3, h4, h5⟩ := h.shape
  cases e
  exact ⟨x, y, rfl, h2, h3, h4, h5⟩
theorem OwnC.from_ {rk : IntKind} {T : TypeId} {base : Nat} {x : Option Addr} {n y : Nat} {l : List Cel} {w : World} (h : OwnC rk T base (.slice x n y) l w) : ∀ b off, x = some ⟨b, off, none⟩ → base ≤ b := fun b off e => by
  obtain ⟨a', c', e1, -, h2, -⟩ := h.shape
  have e2 : x = a' := by injection e1
  exact (h2 b off (by rw [← e2]; exact e)).1
/-- the row's cells are not in the slice's own block -/
def Apart (v : Value) (u : Rv) : Prop := u.n ≠ 0 → ∀ b off, u.a = some ⟨b, off, none⟩ → v.ownBlock ≠ some b
theorem Apart.fresh {T : TypeId} {base m : Nat} {v : Value} {us : List Rv} {u : Rv} {w : World} (h : OwnV T base v us w) (hm : w.heap.size ≤ m) (hu : ∀ b off, u.a = some ⟨b, off, none⟩ → m ≤ b) : Apart v u := fun _ b off e e' => by
  have h1 := (h.ownBlock b e').2
  have h2 := hu b off e
  omega
theorem RowV.apart {rk : IntKind} {u : Rv} {r : Ro} {w w' : World} {row : Option Nat} (h : RowV rk u.val r w) (hg : w.grownBy w' row) (hne : u.n ≠ 0 → ∀ b off, u.a = some ⟨b, off, none⟩ → row ≠ some b) : RowV rk u.val r w' := by
  by_cases hn : u.n = 0
  · obtain ⟨a, c, e, hi, h3⟩ := h
    have e2 := Rv.val_inj (v := ⟨a, r.l.length, c, r.wrapped⟩) e
    subst e2
    exact ⟨a, c, rfl, ⟨rfl, .inl (List.eq_nil_of_length_eq_zero hn)⟩, h3⟩
  · exact h.moved hg.size (fun b off e hl => hg.block b hl (fun e' => hne hn b off e e'.symm))
/-- rows that were gathered, in memory of our own -/
structure Gath (T : TypeId) (L : List Nat) (base : Nat) (v : Value) (rs : List Ro) (w : World) : Prop where
  ex : ∃ us, OwnV T base v us w ∧ RowsV .i64 us rs w ∧ (∀ u ∈ us, Off L u) ∧ ∀ u ∈ us, Apart v u
theorem Gath.nil (T : TypeId) (L : List Nat) (base : Nat) (w : World) : Gath T L base (.slice none 0 0) [] w := ⟨[], OwnV.nil _ _ _, RowsV.nil _ _, (fun u hu => by cases hu), (fun u hu => by cases hu)⟩
theorem Gath.belowAll {T : TypeId} {L : List Nat} {base : Nat} {v : Value} {rs : List Ro} {w w' : World} (h : Gath T L base v rs w) (hb : Below w.heap.size w w') : Gath T L base v rs w' := by
  obtain ⟨us, h1, h2, h3, h4⟩ := h
  exact ⟨us, h1.belowAll hb, h2.belowAll hb, h3, h4⟩
theorem Gath.keptB {T : TypeId} {L : List Nat} {base : Nat} {v : Value} {rs : List Ro} {w w' : World} (h : Gath T L base v rs w) (hk : KeepB L w w') (hv : ∀ q, v.ownBlock = some q → q ∉ L) : Gath T L base v rs w' := by
  obtain ⟨us, h1, h2, h3, h4⟩ := h
  refine ⟨us, ?_, ⟨h2.1, fun i u r hu hr => (h2.2 i u r hu hr).keptB (h3 u (List.mem_of_getElem? hu)) hk⟩, h3, h4⟩
  refine ⟨h1.1, ?_⟩
  rcases h1.2 with h0 | ⟨g', c', cur, he, hbase, hgb, hc, hmx, hsz, ht⟩
  · exact .inl h0
  · exact .inr ⟨g', c', cur, he, hbase, (hk.block g' (Array.getElem?_eq_some_iff.1 hgb).1 (hv g' (by rw [he]; rfl))).trans hgb, hc, hmx, hsz, ht⟩
theorem Gath.own {T : TypeId} {L : List Nat} {base : Nat} {v : Value} {rs : List Ro} {w : World} (h : Gath T L base v rs w) : ∀ q, v.ownBlock = some q → base ≤ q ∧ q < w.heap.size ∧ ∃ cs, w.heap[q]? = some (.cells cs T (0, 0)) := fun q hq => by
  obtain ⟨us, h1, -⟩ := h.ex
  obtain ⟨cs, h2, h3, h4⟩ := U.own_type h1 hq
  exact ⟨h3, h4, cs, h2⟩
theorem Gath.shape {T : TypeId} {L : List Nat} {base : Nat} {v : Value} {rs : List Ro} {w : World} (h : Gath T L base v rs w) : ∃ a c, v = .slice a rs.length c ∧ (a = none → c = 0) ∧ ∀ b off, a = some ⟨b, off, none⟩ → v.ownBlock = some b ∧ off = 0 := by
  obtain ⟨us, h1, h2, -⟩ := h.ex
  rcases h1.2 with ⟨rfl, h0⟩ | ⟨g, cap, cur, rfl, _⟩
  · exact ⟨none, 0, by rw [← h2.1, h0], (fun _ => rfl), (fun _ _ e => by cases e)⟩
  · exact ⟨some ⟨g, 0, none⟩, cap, by rw [h2.1], (fun e => by cases e), (fun b off e => by cases e; exact ⟨rfl, rfl⟩)⟩
theorem Gath.rowsL {T : TypeId} {L L' : List Nat} {base : Nat} {a : Option Addr} {n c : Nat} {rs : List Ro} {w : World} (h : Gath T L base (.slice a n c) rs w) (hs : ∀ p ∈ L', p ∈ L) (hL : ∀ p ∈ L', p < base) : RowsL .i64 L' a n c rs w := by
  obtain ⟨us, h1, h2, h3, -⟩ := h.ex
  obtain ⟨a', c', e, -⟩ := h1.shape
  cases e
  exact h1.rowsL h2 (fun u hu hn b off e hb => h3 u hu hn b off e (hs b hb)) hL
theorem Gath.weaken {T : TypeId} {L : List Nat} {base base' : Nat} {v : Value} {rs : List Ro} {w : World} (h : Gath T L base v rs w) (hb : base' ≤ base) : Gath T L base' v rs w := by
  obtain ⟨us, h1, h2, h3, h4⟩ := h
  exact ⟨us, h1.weaken hb, h2, h3, h4⟩
/-- a row more -/
theorem wpList_append_row {t T : TypeId} {bytes : Nat} (hI : RvT t T bytes) {ops : Array Oper} {rest : List Oper} {o : Oper} {z : Act} {w : World} {Q : Exit → Act → World → Prop} (hgd : o.guard = none) (s x : Operand)
    (ho : o.op = .call { callee := .builtin .append, args := #[s, x], argTypes := #[t, t] }) (hty : o.type = t)
    (L : List Nat) (base : Nat) (v : Value) (rs : List Ro) (p : Nat) (u : Rv) (r : Ro) (hs : z.eval s = v) (hxv : z.eval x = .slice (some ⟨p, 0, none⟩) 1 1) (hG : Gath T L base v rs w) (hp : RoB T p (.slice u.a u.n u.c) u.b w) (hu : RowV .i64 u.val r w) (hoff : Off L u) (hap : Apart v u) (h1 : rs.length ≤ 1000) (hbase : base ≤ w.heap.size)
    (hK : ∀ v' w', Gath T L base v' (rs ++ [r]) w' → w.grownBy w' v.ownBlock → (∀ q, v'.ownBlock = some q → v.ownBlock = some q ∨ w.heap.size ≤ q) → wpList Tryd.prog ops Q rest (z.put o.dst v') w') : wpList Tryd.prog ops Q (o :: rest) z w :=
  wpList_plain hgd fun _ hK' => by
    obtain ⟨us, h2, h3, h4, h5⟩ := hG.ex
    have hin : RvsIn (some ⟨p, 0, none⟩) 1 1 [u] w := ⟨rfl, Nat.le_refl _, by decide, .inr ⟨p, 0, rfl, hp.lt, fun i d hi => by
      have h0 : i = 0 := by have := (List.getElem?_eq_some_iff.1 hi).1; simp at this; omega
      subst h0
      obtain rfl : u = d := by simpa using hi
      exact ⟨hp.c0, hp.c1⟩⟩⟩
    obtain ⟨v', w', hr, k1, k2⟩ := run_append_rows hI base v us (some ⟨p, 0, none⟩) 1 1 [u] w h2 hin (fun e => by cases e) (by have := h3.1; omega) (by simp) hbase
    have hblk : ∀ q, v'.ownBlock = some q → v.ownBlock = some q ∨ w.heap.size ≤ q := k2.block
    have hrv : RowsV .i64 us rs w' := ⟨h3.1, fun i d q hd hq => (h3.2 i d q hd hq).apart k2.grown (fun hn b off e e' => h5 d (List.mem_of_getElem? hd) hn b off e e')⟩
    have hru : RowV .i64 u.val r w' := hu.apart k2.grown (fun hn b off e e' => hap hn b off e e')
    have hap' : ∀ d : Rv, Apart v d → (d.n ≠ 0 → ∀ b off, d.a = some ⟨b, off, none⟩ → b < w.heap.size) → Apart v' d := fun d hd hl hn b off e e' => by
      rcases hblk b e' with h6 | h6
      · exact hd hn b off e h6
      · have := hl hn b off e; omega
    have hG' : Gath T L base v' (rs ++ [r]) w' := by
      refine ⟨us ++ [u], k1, hrv.snoc hru, fun d hd => ?_, fun d hd => ?_⟩
      · rcases List.mem_append.1 hd with hd | hd
        · exact h4 d hd
        · rw [List.mem_singleton.1 hd]; exact hoff
      · rcases List.mem_append.1 hd with hd | hd
        · refine hap' d (h5 d hd) (fun hn => ?_)
          obtain ⟨i, hi, rfl⟩ := List.mem_iff_getElem.1 hd
          have hi' : i < rs.length := by rw [← h3.1]; exact hi
          exact (h3.2 i _ _ (List.getElem?_eq_getElem hi) (List.getElem?_eq_getElem hi')).lt hn
        · rw [List.mem_singleton.1 hd]
          exact hap' u hap (fun hn => hu.lt hn)
    unfold Oper.wp execOp
    simp only [ho, hty, resolve, invoke, builtin, Sem.run_bind, Sem.run_pure, Result.andThen_ok, List.map_toArray, List.map_cons, List.map_nil, hs, hxv, hr]
    exact hK' _ _ (hK v' w' hG' k2.grown hblk)
/-- the document's grid in a block -/
def GrB (p : Nat) (W : Nat) (v : Value) (w : World) : Prop := w.heap[p]? = some (.cells #[.int .i64 (W : Int), v] 82 (0, 0))
theorem GrB.new (w : World) (W : Nat) (v : Value) : GrB w.heap.size W v (w.alloc (.cells #[.int .i64 (W : Int), v] 82)) := World.alloc_heap_new w _
theorem GrB.lt {p W : Nat} {v : Value} {w : World} (h : GrB p W v w) : p < w.heap.size := (Array.getElem?_eq_some_iff.1 h).1
theorem GrB.c0 {p W : Nat} {v : Value} {w : World} (h : GrB p W v w) : w.cell? ⟨p, 0, none⟩ = some (.int .i64 (W : Int)) := by simp [World.cell?, show w.heap[p]? = _ from h]
theorem GrB.c1 {p W : Nat} {v : Value} {w : World} (h : GrB p W v w) : w.cell? ⟨p, 1, none⟩ = some v := by simp [World.cell?, show w.heap[p]? = _ from h]
theorem GrB.fr {p W : Nat} {v : Value} {w : World} (h : GrB p W v w) (o : Nat) : w.frozen? ⟨p, o, none⟩ = false := by simp [World.frozen?, show w.heap[p]? = _ from h]
theorem GrB.kept {p W : Nat} {v : Value} {w w' : World} (h : GrB p W v w) (hb : w'.heap[p]? = w.heap[p]?) : GrB p W v w' := hb.trans h
theorem GrB.belowAll {p W : Nat} {v : Value} {w w' : World} (h : GrB p W v w) (hb : Below w.heap.size w w') : GrB p W v w' := h.kept (hb.block p h.lt)
theorem GrB.set1 {p W : Nat} {v v' : Value} {w : World} (h : GrB p W v w) : GrB p W v' (w.setCell ⟨p, 1, none⟩ v') := by
  unfold GrB at h ⊢
  simp [World.setCell, Array.getElem?_modify, h]
theorem GrB.grown {p W : Nat} {v x : Value} {T : TypeId} {base n size : Nat} {xs : List Value} {w w' : World} (h : GrB p W v w) (ho : w.ownsRow base T size x n xs) (hT : T ≠ 82) (hg : w.grownBy w' x.ownBlock) : GrB p W v w' := h.kept (hg.block p h.lt (fun e => by
  obtain ⟨cs, h5, _⟩ := U.own_type ho e.symm
  rw [show w.heap[p]? = _ from h] at h5
  injection h5 with h5
  injection h5 with h5 h6
  exact hT h6.symm))
end Go.Proofs.YtkggmcnocpgnbaaDoor.K

/- The document's grid: New, Resize. -/
namespace Go.Proofs.YtkggmcnocpgnbaaDoor.K
open Go.RowKit

def NewOk (xb W cb : Nat) (vv : Value) : Nat → Value → World → Prop
  | 0, u, _ => u = .pointer (some ⟨xb, 1, none⟩)
  | 1, u, _ => u = vv
  | 2, u, _ => u = .pointer (some ⟨xb, 0, none⟩)
  | 3, u, _ => u = .int .i64 (W : Int)
  | 4, u, w => ∃ x3 y3, u = .agg #[.slice x3 W y3, .bool false] ∧ OwnC .i64 107 cb (.slice x3 W y3) (blanks W 0) w
  | 5, u, w => ∃ p x3 y3, u = .slice (some ⟨p, 0, none⟩) 1 1 ∧ RoB 38 p (.slice x3 W y3) false w ∧ OwnC .i64 107 cb (.slice x3 W y3) (blanks W 0) w
  | _, _, _ => True
/-- what New has come to -/
structure NwI (L : List Nat) (rb base xb W : Nat) (w : World) (rs : List Ro) (wr : World) : Prop where
  ex : ∃ v, GrB xb W v wr ∧ Gath 38 L base v rs wr
  b : Below rb w wr
  sz : base ≤ wr.heap.size
theorem NwI.store {L : List Nat} {rb base xb W : Nat} {w : World} {rs : List Ro} {w5 : World} {v v' : Value} (hx : GrB xb W v w5) (hG : Gath 38 L base v' rs w5) (hb : Below rb w w5) (hr : rb ≤ xb) (hs : base ≤ w5.heap.size) (hL : ∀ p ∈ L, p < base) (hxL : xb ∈ L) : NwI L rb base xb W w rs (w5.setCell ⟨xb, 1, none⟩ v') :=
  ⟨⟨v', hx.set1, hG.keptB ((KeepB.setCell _).mono (fun i hi => by rw [List.mem_singleton.1 hi]; exact hxL)) (fun q hq hm => by have := hL q hm; have := (hG.own q hq).1; omega)⟩, hb.setCell (p := ⟨xb, 1, none⟩) hr _, Nat.le_trans hs (KeepsWalks.setCell _ _ _).size⟩
def GrPost (L : List Nat) (x : Gd) (w : World) (e : Ending) (w' : World) : Prop := ∃ v, e = .returned v ∧ RefG L v x w' ∧ Below w.heap.size w w'
set_option maxRecDepth 100000 in
set_option maxHeartbeats 8000000 in
theorem refNew_any {L : List Nat} (W0 H0 : Int) (w : World) (hL : ∀ p ∈ L, p < w.heap.size) :
    Calls Tryd.prog 36 #[.int .i64 W0, .int .i64 H0] w (GrPost L (newG W0 H0) w) := by
  obtain ⟨rb, hrb⟩ : ∃ rb, w.heap.size = rb := ⟨_, rfl⟩
  obtain ⟨w1, hw1⟩ : ∃ w1, w.alloc (.cells #[.int .i64 0, .slice none 0 0] 82) = w1 := ⟨_, rfl⟩
  have hs1 : w1.heap.size = rb + 1 := by rw [← hw1, World.size_alloc, hrb]
  have b01 : Below rb w w1 := by rw [← hw1, ← hrb]; exact (Below.refl _ _).alloc (Nat.le_refl _) _
  have hg1 : GrB rb 0 (.slice none 0 0) w1 := by rw [← hw1, ← hrb]; exact GrB.new w 0 _
  have HS1 := Lib.hid (rsize_any W0 w1)
  have HS2 := Lib.hid (fun v => rsize_any H0 v)
  have hnew : newG W0 H0 = ⟨szN W0, List.replicate (szN H0) (blankR (szN W0) 0)⟩ := rfl
  have hW1 := szN_le W0
  have hH1 := szN_le H0
  rw [hnew]
  obtain ⟨W, hW⟩ : ∃ W, szN W0 = W := ⟨_, rfl⟩
  obtain ⟨H, hH⟩ : ∃ H, szN H0 = H := ⟨_, rfl⟩
  rw [hW] at HS1 hW1 ⊢
  rw [hH] at HS2 hH1 ⊢
  have HNW : Hid (nearN (W : Int) = W) := Lib.hid (by unfold nearN; omega)
  obtain ⟨xb, hxb⟩ : ∃ xb, rb + 1 = xb := ⟨_, rfl⟩
  obtain ⟨w2, hw2⟩ : ∃ w2, w1.alloc (.cells #[.int .i64 (W : Int), .slice none 0 0] 82) = w2 := ⟨_, rfl⟩
  have hx2 : GrB xb W (.slice none 0 0) w2 := by rw [← hw2, ← hxb, ← hs1]; exact GrB.new w1 W _
  have b12 : Below rb w w2 := b01.trans (by rw [← hw2]; exact (Below.refl _ _).alloc (by omega) _)
  have hg2 : GrB rb 0 (.slice none 0 0) w2 := by rw [← hw2]; exact hg1.belowAll ((Below.refl _ _).alloc (Nat.le_refl _) _)
  obtain ⟨base, hbase⟩ : ∃ base, rb + 2 = base := ⟨_, rfl⟩
  have hi0 : NwI (rb :: xb :: L) rb base xb W w [] w2 := ⟨⟨_, hx2, Gath.nil _ _ _ _⟩, b12, by rw [← hw2, World.size_alloc]; omega⟩
  have HBa := Lib.hid hbase
  have HI0 := Lib.hid (And.intro hi0 hg2)
  have HW1 := Lib.hid hw1
  have HW2 := Lib.hid hw2
  have HRb := Lib.hid hrb
  have HS := Lib.hid hs1
  have HXb := Lib.hid hxb
  have HL := Lib.hid hL
  have HLb : Hid (∀ p ∈ rb :: xb :: L, p < base) := Lib.hid (fun p hp => by
    rcases List.mem_cons.1 hp with rfl | hp
    · omega
    rcases List.mem_cons.1 hp with rfl | hp
    · omega
    · have := hL p hp; omega)
  clear hw1 hw2 hs1 b01 hg1 hx2 b12 hg2 hi0 hrb hL hnew hW hH hbase
  obtain ⟨P, hP⟩ : ∃ P, GrPost L ⟨W, List.replicate H (blankR W 0)⟩ w = P := ⟨_, rfl⟩
  rw [hP]
  have HP := Lib.hid hP
  clear hP
  go_enter Tryd.func36, Tryd.ntmps36
  go_upto_region 1 with fail
  rw [HW1.out, HRb.out]
  go_wp2_with (go_at_call 64; refine HS1.out.mono ?_; rintro e w' ⟨rfl, rfl⟩)
  rw [HS.out, HXb.out, HW2.out]
  go_loopw [6] (fun i wr => ∃ j : Nat, i = .int .i64 (j : Int) ∧ j ≤ H ∧ Hid (NwI (rb :: xb :: L) rb base xb W w (List.replicate j (blankR W 0)) wr ∧ GrB rb 0 (.slice none 0 0) wr)) (fun i _ => H - (intOf i).toNat)
  case atStart => exact ⟨0, rfl, Nat.zero_le _, HI0⟩
  case round =>
    obtain ⟨j, rfl, hj, HF⟩ := hrel
    by_cases hlt : j < H
    · have hd : decide (j < H) = true := decide_eq_true hlt
      obtain ⟨rs, hrs⟩ : ∃ rs, List.replicate j (blankR W 0) = rs := ⟨_, rfl⟩
      have HRs := Lib.hid hrs
      obtain ⟨⟨⟨vv, hx, hGa⟩, hb, hrbw⟩, hgb⟩ := HF.out
      rw [hrs] at hGa
      have HX := Lib.hid hx
      have HXl := Lib.hid hx.lt
      have HGa := Lib.hid hGa
      have HGb := Lib.hid hgb
      have HBw := Lib.hid hb
      have HRbw := Lib.hid hrbw
      have HCb : Hid (wr.heap.size ≤ wr.heap.size) := Lib.hid (Nat.le_refl _)
      have HLr : Hid (∀ p ∈ rb :: xb :: L, p < wr.heap.size) := Lib.hid (fun p hp => by
        rcases List.mem_cons.1 hp with rfl | hp
        · exact hgb.lt
        rcases List.mem_cons.1 hp with rfl | hp
        · exact hx.lt
        · have := HL.out p hp; have := HRb.out; have := HBa.out; omega)
      have HRsl : Hid (rs.length ≤ 1000) := Lib.hid (by rw [← hrs, List.length_replicate]; omega)
      clear hx hGa hgb hb hrbw hrs
      go_upto_region 5 with (go_at_call 64; refine (HS2.out _).mono ?_; rintro e w' ⟨rfl, rfl⟩)
      refine Go.Proofs.YtkggmcnocpgnbaaDoor.R.wp_region_tailT 6 (by kernel_rfl) (fun u => Below wr.heap.size wr u) (fun u v => Below u.heap.size u v) (NewOk xb W wr.heap.size vv) (by rfl) (by kernel_rfl) (by decide) (by kernel_rfl) (by kernel_rfl) (by kernel_rfl) ?hC ?hOk ?hop ?hdone ((Below.refl _ _).drew)
      case hC => exact fun u v h1 h2 => h1.trans (h2.mono h1.size)
      case hOk =>
        intro i u w1 w2 h hr
        unfold NewOk at h ⊢
        split <;> first | exact True.intro | exact h | (obtain ⟨x, y, e, h1⟩ := h; exact ⟨x, y, e, h1.belowAll hr⟩) | (obtain ⟨p, x, y, e, h0, h1⟩ := h; exact ⟨p, x, y, e, h0.belowAll hr, h1.belowAll hr⟩) | (obtain ⟨x, m, y, b, e, h1, h2⟩ := h; exact ⟨x, m, y, b, e, h1.belowAll hr, h2⟩) | (obtain ⟨p, x, m, y, b, e, h0, h1, h2⟩ := h; exact ⟨p, x, m, y, b, e, h0.belowAll hr, h1.belowAll hr, h2⟩)
      case hop =>
        refine ⟨?_, ?_, ?_, ?_, ?_, ?_, trivial⟩
        · intro z v hz hag hdep
          refine .inl ⟨rfl, fun K hK => ?_⟩
          have d5 : z.tmps.getD 5 undef = .pointer (some ⟨xb, 0, none⟩) := hag.2.2 5 (by kernel_rfl)
          have e5 := d5
          rw [Array.getD_eq_getD_getElem?] at e5
          clear hdep hag 
          go_simp
          exact hK _ _ (Below.refl _ _) rfl
        · intro z v hz hag hdep
          refine .inl ⟨rfl, fun K hK => ?_⟩
          have d16 : z.tmps.getD 16 undef = .pointer (some ⟨xb, 1, none⟩) := hdep { on := 0, ground := .data } (by simp) rfl _ _ rfl rfl
          have e16 := d16
          rw [Array.getD_eq_getD_getElem?] at e16
          have l0 := (hz.cell (p := ⟨xb, 1, none⟩) HXl.out).trans HX.out.c1
          clear hz
          clear hdep hag 
          go_simp
          exact hK _ _ (Below.refl _ _) rfl
        · intro z v hz hag hdep
          refine .inl ⟨rfl, fun K hK => ?_⟩
          have d5 : z.tmps.getD 5 undef = .pointer (some ⟨xb, 0, none⟩) := hag.2.2 5 (by kernel_rfl)
          have e5 := d5
          rw [Array.getD_eq_getD_getElem?] at e5
          clear hdep hag 
          go_simp
          exact hK _ _ (Below.refl _ _) rfl
        · intro z v hz hag hdep
          refine .inl ⟨rfl, fun K hK => ?_⟩
          have d18 : z.tmps.getD 18 undef = .pointer (some ⟨xb, 0, none⟩) := hdep { on := 2, ground := .data } (by simp) rfl _ _ rfl rfl
          have e18 := d18
          rw [Array.getD_eq_getD_getElem?] at e18
          have l0 := (hz.cell (p := ⟨xb, 0, none⟩) HXl.out).trans HX.out.c0
          clear hz
          clear hdep hag 
          go_simp
          exact hK _ _ (Below.refl _ _) rfl
        · intro z v hz hag hdep
          refine .inl ⟨rfl, fun K hK => ?_⟩
          have d19 : z.tmps.getD 19 undef = .int .i64 (W : Int) := hdep { on := 3, ground := .data } (by simp) rfl _ _ rfl rfl
          have e19 := d19
          rw [Array.getD_eq_getD_getElem?] at e19
          have HC := Lib.hid (refBlank_any (W : Int) 0 v)
          have HZs := Lib.hid hz.size
          clear hdep hag hz
          go_simp
          refine HC.out.mono ?_
          rintro e w' ⟨v', rfl, h1, h2⟩
          rw [HNW.out] at h1
          obtain ⟨x3, y3, rfl, -⟩ := h1.shape
          rw [blanks_length] at h1 ⊢
          exact hK _ _ h2 ⟨x3, y3, rfl, h1.weaken (Nat.le_trans HCb.out HZs.out)⟩
        · intro z v hz hag hdep
          refine .inl ⟨rfl, fun K hK => ?_⟩
          have d20' : NewOk xb W wr.heap.size vv 4 (z.tmps.getD 20 undef) v := hdep { on := 4, ground := .data } (by simp) rfl _ _ rfl rfl
          simp only [NewOk] at d20'
          obtain ⟨x3, y3, d20, hO3⟩ := d20'
          have e20 := d20
          rw [Array.getD_eq_getD_getElem?] at e20
          have HO3 := Lib.hid hO3
          clear hdep hag hz hO3
          go_simp
          exact hK _ _ ((Below.refl _ _).alloc (Nat.le_refl _) _) ⟨v.heap.size, x3, y3, rfl, RoB.new _ _ _ _, HO3.out.belowAll ((Below.refl _ _).alloc (Nat.le_refl _) _)⟩

      case hdone =>
        intro z v hz hag hok hno
        clear hno
        have d17 : z.tmps.getD 17 undef = vv := hok 1 _ 17 (by decide) rfl rfl
        obtain ⟨p, x3, y3, d21, hRo, hO3⟩ : ∃ p x3 y3, z.tmps.getD 21 undef = .slice (some ⟨p, 0, none⟩) 1 1 ∧ RoB 38 p (.slice x3 W y3) false v ∧ OwnC .i64 107 wr.heap.size (.slice x3 W y3) (blanks W 0) v := hok 5 _ 21 (by decide) rfl rfl
        obtain ⟨uu, hu, hzz⟩ := Go.Proofs.YtkggmcnocpgnbaaDoor.R.agree_frame [16, 17, 18, 19, 20, 21, 22, 23] rfl hag
        have e17 := (hu 17).trans d17
        have e21 := (hu 21).trans d21
        subst hzz
        have HZ := Lib.hid hz
        clear hz
        simp only [List.foldl_cons, List.foldl_nil]
        rw [e17, e21]
        clear e17 d17 e21 d21 hu hag hok
        try dsimp only [Exit.then]
        try dsimp only [List.drop]
        simp only [List.setIfInBounds_toArray, List.set_cons_succ, List.set_cons_zero]
        generalize uu 16 = u16', uu 18 = u18', uu 19 = u19', uu 20 = u20', uu 22 = u22', uu 23 = u23'
        clear uu
        have HRo := Lib.hid hRo
        have HO3 := Lib.hid hO3
        have hrv : RowV .i64 (Rv.val ⟨x3, W, y3, false⟩) (blankR W 0) v := by
          have h := hO3.rowVk (r := blankR W 0)
          exact h
        have hfresh : ∀ b off, (⟨x3, W, y3, false⟩ : Rv).a = some ⟨b, off, none⟩ → wr.heap.size ≤ b := hO3.from_
        have hgz := HGa.out.belowAll HZ.out
        have hap : Apart vv ⟨x3, W, y3, false⟩ := fun _ b off e e' => by
          have h1 := (HGa.out.own b e').2.1
          have h2 := hfresh b off e
          omega
        have hoff : Off (rb :: xb :: L) ⟨x3, W, y3, false⟩ := Off.fresh hfresh HLr.out
        have HRv := Lib.hid hrv
        have HGz := Lib.hid hgz
        have HAp := Lib.hid hap
        have HOf := Lib.hid hoff
        have HZs : Hid (base ≤ v.heap.size) := Lib.hid (Nat.le_trans HRbw.out HZ.out.size)
        clear hRo hO3 hrv hgz hap hoff hfresh
        go_wp2_with (refine wpList_append_row refRowsT rfl _ _ rfl rfl (rb :: xb :: L) base vv rs p ⟨x3, W, y3, false⟩ (blankR W 0) rfl rfl HGz.out HRo.out HRv.out HOf.out HAp.out HRsl.out HZs.out ?_)
        intro v' w5 hG5 hg5 hb5
        have hx5 : GrB xb W vv w5 := by
          obtain ⟨us0, ho0, -⟩ := HGz.out.ex
          exact (HX.out.belowAll HZ.out).grown ho0 (by decide) hg5
        have HGb5 := Lib.hid (show GrB _ _ _ w5 from by obtain ⟨us0, ho0, -⟩ := HGz.out.ex; exact (HGb.out.belowAll HZ.out).grown ho0 (by decide) hg5)
        have hbw5 : Below rb wr w5 := (HZ.out.mono (by have := HRbw.out; have := HBa.out; omega)).grown hg5 (by have := HZs.out; have := HBa.out; omega) (fun q hq => by have := (HGz.out.own q hq).1; have := HBa.out; omega)
        have f1 := hx5.fr 1
        have c1 := hx5.c1
        obtain ⟨a5, c5, rfl, -, -⟩ := hG5.shape
        have HG5 := Lib.hid hG5
        have HX5 := Lib.hid hx5
        have HBw5 := Lib.hid hbw5
        clear hG5 hg5 hb5 hx5 hbw5
        go_wp2_with fail

        have hrep : rs ++ [blankR W 0] = List.replicate (j + 1) (blankR W 0) := by rw [← HRs.out, List.replicate_succ']
        have hN : NwI (rb :: xb :: L) rb base xb W w (List.replicate (j + 1) (blankR W 0)) (w5.setCell ⟨xb, 1, none⟩ (.slice a5 (rs ++ [blankR W 0]).length c5)) := by
          rw [← hrep]
          exact NwI.store HX5.out HG5.out (HBw.out.trans HBw5.out) (by have := HXb.out; omega) (Nat.le_trans HRbw.out HBw5.out.size) HLb.out (by simp)
        have hkb : ((w5.setCell ⟨xb, 1, none⟩ (.slice a5 (rs ++ [blankR W 0]).length c5))).heap[rb]? = w5.heap[rb]? := Below.heap_setCell _ _ _ rb (fun e => by have := HXb.out; have : rb = xb := e; omega)
        have HN : Hid (NwI (rb :: xb :: L) rb base xb W w (List.replicate (j + 1) (blankR W 0)) (w5.setCell ⟨xb, 1, none⟩ (.slice a5 (rs.length + 1) c5)) ∧ GrB rb 0 (.slice none 0 0) (w5.setCell ⟨xb, 1, none⟩ (.slice a5 (rs.length + 1) c5))) := Lib.hid (by
          have h := And.intro hN (HGb5.out.kept hkb)
          rw [List.length_append, List.length_singleton] at h
          exact h)
        clear hN hkb
        go_roundw
        case rel => exact ⟨j + 1, by go_num, by omega, HN⟩
        case measure => simp [intOf]; omega
    · obtain rfl : j = H := by omega
      have hd : decide (j < j) = false := by simp
      have hd' : decide ((j : Int) < (j : Int)) = false := by simp
      obtain ⟨⟨⟨vv, hx, hGa⟩, hb, hrbw⟩, hgb⟩ := HF.out
      have e0 := hx.c0
      obtain ⟨av, cv, rfl, -, -⟩ := hGa.shape
      have e1 := hx.c1
      have f0 := hgb.fr 0
      have f1 := hgb.fr 1
      have k0 := hgb.c0
      have k1 := hgb.c1
      have HGa := Lib.hid hGa
      have HGb := Lib.hid hgb
      have HBw := Lib.hid hb
      clear hx hGa hb hgb HF
      go_wp2_with (go_at_call 64; refine (HS2.out _).mono ?_; rintro e w' ⟨rfl, rfl⟩)
      refine bodyPost_ret (v := .agg #[.int .i64 (W : Int), .slice av j cv]) (by rw [results_cell (fn := Tryd.f36) rfl]; go_simp <;> rfl) rfl ?_
      rw [← HP.out]
      have hk := ((KeepB.setCell (w := wr) (q := rb) (o := 0) (.int .i64 (W : Int))).trans (KeepB.setCell (q := rb) (o := 1) (.slice av j cv)))
      have hrl := HGa.out.rowsL (L' := rb :: L) (fun p hp => by
        rcases List.mem_cons.1 hp with rfl | hp
        · simp
        · simp [hp]) (fun p hp => HLb.out p (by
        rcases List.mem_cons.1 hp with rfl | hp
        · simp
        · simp [hp]))
      rw [List.length_replicate] at hrl
      refine ⟨_, rfl, ⟨av, j, cv, rfl, (hrl.keptB (hk.mono (fun i hi => by rw [List.mem_singleton.1 hi]; simp))).sub (fun p hp => List.mem_cons_of_mem _ hp)⟩, ?_⟩
      rw [HRb.out]
      exact hk.below (fun i hi => by rw [List.mem_singleton.1 hi]; exact Nat.le_refl _) HBw.out (by have := HGb.out.lt; omega)
end Go.Proofs.YtkggmcnocpgnbaaDoor.K
