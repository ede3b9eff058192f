/- The contract of the document's ReadText, in a seat without datagrams. -/
import Derived.Test.YtjlljkdlgkociaaIRefs
import Derived.Test.YtjlljkdlgkociaaNPrs
import Derived.Test.YtjlljkdlgkociaaMerged15
import Derived.Test.YtjlljkdlgkociaaMerged7
namespace Go.Proofs.Ytjlljkdlgkociaa.K
open Go.RowKit Go.Proofs.Ytjlljkdlgkociaa.I

theorem below_stepN {w w1 w2 : World} (h : Below w.heap.size w w1) (h2 : Below w1.heap.size w1 w2) : Below w.heap.size w w2 := h.trans (h2.mono h.size)
/-- The document's In, in a block of its own. -/
def IBlkN (p : Nat) (s : ByteArray) (e : Nat) (w : World) : Prop := w.heap[p]? = some (.cells #[.string s, .int .i64 e] 65 (0, 0))
theorem IBlkN.lt {p : Nat} {s : ByteArray} {e : Nat} {w : World} (h : IBlkN p s e w) : p < w.heap.size := (Array.getElem?_eq_some_iff.1 h).1
theorem IBlkN.c0 {p : Nat} {s : ByteArray} {e : Nat} {w : World} (h : IBlkN p s e w) : w.cell? ⟨p, 0, none⟩ = some (.string s) := by rw [Lib.cell_of_heap h]; rfl
theorem IBlkN.c1 {p : Nat} {s : ByteArray} {e : Nat} {w : World} (h : IBlkN p s e w) : w.cell? ⟨p, 1, none⟩ = some (.int .i64 e) := by rw [Lib.cell_of_heap h]; rfl
theorem IBlkN.fr {p : Nat} {s : ByteArray} {e : Nat} {w : World} (h : IBlkN p s e w) (o : Nat) : w.frozen? ⟨p, o, none⟩ = false := by simp [World.frozen?, show w.heap[p]? = _ from h]
theorem IBlkN.set {p : Nat} {s : ByteArray} {e : Nat} {w : World} (h : IBlkN p s e w) (s' : ByteArray) (e' : Nat) : IBlkN p s' e' ((w.setCell ⟨p, 0, none⟩ (.string s')).setCell ⟨p, 1, none⟩ (.int .i64 e')) := by
  have h' : w.heap[p]? = _ := h
  unfold IBlkN
  simp [World.setCell, Array.getElem?_modify, h']
theorem IBlkN.other {p g o : Nat} {s : ByteArray} {e : Nat} {w : World} (h : IBlkN p s e w) (hne : p ≠ g) (v : Value) : IBlkN p s e (w.setCell ⟨g, o, none⟩ v) := (Below.heap_setCell _ _ _ _ hne).trans h
theorem IBlkN.below {p : Nat} {s : ByteArray} {e : Nat} {w w' : World} (h : IBlkN p s e w) (hb : Below w.heap.size w w') : IBlkN p s e w' := (hb.block p h.lt).trans h
theorem IBlkN.grown {p : Nat} {s : ByteArray} {e : Nat} {w w' : World} {row : Option Nat} (h : IBlkN p s e w) (hg : w.grownBy w' row) (hne : some p ≠ row) : IBlkN p s e w' := (hg.block p h.lt hne).trans h
set_option maxHeartbeats 400000 in
theorem nreftext_any (s : ByteArray) (hs : (s.size : Int) ≤ 1000000) (e : Nat) (he : e ≠ 0 → s.data.toList = []) (w : World) :
    Calls Try.prog 27 #[inV s e] w (RefS (textS s.data.toList e).2 (textS s.data.toList e).1 w) := by
  obtain ⟨P, hP⟩ : ∃ P, RefS (textS s.data.toList e).2 (textS s.data.toList e).1 w = P := ⟨_, rfl⟩
  rw [hP]
  have HP := Lib.hid hP
  have H1 := Lib.hid (fun u => refread_any s hs e he u)
  have HI := Lib.hid (numS_inv he)
  unfold textS at HP
  obtain ⟨⟨⟨l1, e1⟩, v⟩, hn⟩ : ∃ q, numS s.data.toList e = q := ⟨_, rfl⟩
  rw [hn] at H1 HI HP
  have H2 : Hid (∀ (t : ByteArray) (u : World), t.data.toList = l1 → (t.size : Int) ≤ 1000000 → Calls Try.prog 67 #[inV t e1, .int .i64 v] u (RefS (rawS l1 e1 v).2 (rawS l1 e1 v).1 u)) := Lib.hid fun t u ht hz => by
    have h := refraw_any t hz e1 (by rw [ht]; exact HI.out) (v : Int) u
    rw [ht, Int.toNat_natCast] at h
    exact h
  unfold inV at *
  obtain ⟨wZ, hwZ⟩ : ∃ wZ, (w.alloc (.cells #[.string s, .int .i64 e] 65)).alloc (.cells #[.string ⟨#[]⟩, .int .i64 0] 65) = wZ := ⟨_, rfl⟩
  have hbZ : Below w.heap.size w wZ := by rw [← hwZ]; exact ((Below.refl _ _).alloc (Nat.le_refl _) _).alloc (by simp) _
  obtain ⟨B, hB⟩ : ∃ B, w.heap.size = B := ⟨_, rfl⟩
  have hr : IBlkN (B + 1) ⟨#[]⟩ 0 wZ := by
    rw [← hwZ, ← hB]
    have := World.alloc_heap_new (w.alloc (.cells #[.string s, .int .i64 e] 65)) (.cells #[.string ⟨#[]⟩, .int .i64 0] 65)
    rwa [World.size_alloc] at this
  have hx : IBlkN B s e wZ := by
    rw [← hwZ, ← hB]; unfold IBlkN; rw [Below.heap_alloc _ _ _ (by simp)]; exact World.alloc_heap_new _ _
  have b0 := hx.c0
  have b1 := hx.c1
  have HBZ := Lib.hid hbZ
  have HRZ := Lib.hid hr
  have HBe := Lib.hid hB
  clear hP he hn hs hbZ hr hx
  go_enter Try.func27, Try.ntmps27
  go_wp2_with fail
  refine (H1.out _).mono ?_
  rintro en w1 ⟨t, rfl, htl, hts, hb1⟩
  obtain ⟨X, hX⟩ : ∃ X, w1.heap.size = X := ⟨_, rfl⟩
  obtain ⟨w2, hw2⟩ : ∃ w2, w1.alloc (.cells #[.string t, .int .i64 e1] 65) = w2 := ⟨_, rfl⟩
  have hb2 : Below w1.heap.size w1 w2 := by rw [← hw2]; exact (Below.refl _ _).alloc (Nat.le_refl _) _
  have hx2 : IBlkN X t e1 w2 := by rw [← hw2, ← hX]; exact World.alloc_heap_new _ _
  have HR2 := Lib.hid ((HRZ.out.below hb1).below hb2)
  have HB2 := Lib.hid (below_stepN (below_stepN HBZ.out hb1) hb2)
  have HCl := Lib.hid (H2.out t w2 htl hts)
  have c0 := hx2.c0
  have c1 := hx2.c1
  clear hb1 hb2 hx2 htl hts hwZ b0 b1
  go_wp2_with fail
  refine HCl.out.mono ?_
  rintro en w3 ⟨s3, t3, rfl, hs3, ht3, hz3, hb3⟩
  unfold inV
  have hr3 := HR2.out.below hb3
  have HB3 := Lib.hid (below_stepN HB2.out hb3)
  have HS3 := Lib.hid hs3
  have HT3 := Lib.hid ht3
  have HZ3 := Lib.hid hz3
  have HR3 := Lib.hid hr3
  have r0 := hr3.c0
  have r1 := hr3.c1
  have q0 := hr3.fr 0
  have q1 := hr3.fr 1
  clear hr3 hs3 ht3 hz3 hb3 hw2 hX c0 c1 hB
  go_wp2
  (try simp only [Exit.inBlock, Exit.then])
  refine bodyPost_ret (v := .tuple #[.agg #[.string s3, .int .i64 (rawS l1 e1 v).1.2], .string t3]) (by rw [results_cell_tmp rfl]; go_simp) rfl ?_
  rw [← HP.out]
  exact ⟨s3, t3, rfl, HS3.out, HT3.out, HZ3.out, (HB3.out.setCell (p := ⟨B + 1, 0, none⟩) (by rw [HBe.out]; exact Nat.le_succ _) _).setCell (p := ⟨B + 1, 1, none⟩) (by rw [HBe.out]; exact Nat.le_succ _) _⟩
end Go.Proofs.Ytjlljkdlgkociaa.K

/- Rows of the document's that are gathered, one behind the other. -/
namespace Go.Proofs.Ytjlljkdlgkociaa.K
open Go.RowKit

theorem OwnC.rowVk {rk : IntKind} {T : TypeId} {base : Nat} {x : Option Addr} {n y : Nat} {r : Ro} {w : World} (h : OwnC rk T base (.slice x n y) r.l w) : RowV rk (.agg #[.slice x n y, .bool r.wrapped]) r w := by
  obtain ⟨a, c, e, h2, -, h3, h4, h5⟩ := h.shape
  cases e
  exact ⟨x, y, rfl, h2, h3, h4, h5⟩
theorem OwnC.from_ {rk : IntKind} {T : TypeId} {base : Nat} {x : Option Addr} {n y : Nat} {l : List Cel} {w : World} (h : OwnC rk T base (.slice x n y) l w) : ∀ b off, x = some ⟨b, off, none⟩ → base ≤ b := fun b off e => by
  obtain ⟨a', c', e1, -, h2, -⟩ := h.shape
  have e2 : x = a' := by injection e1
  exact (h2 b off (by rw [← e2]; exact e)).1
/-- the row's cells are not in the slice's own block -/
def Apart (v : Value) (u : Rv) : Prop := u.n ≠ 0 → ∀ b off, u.a = some ⟨b, off, none⟩ → v.ownBlock ≠ some b
theorem Apart.fresh {T : TypeId} {base m : Nat} {v : Value} {us : List Rv} {u : Rv} {w : World} (h : OwnV T base v us w) (hm : w.heap.size ≤ m) (hu : ∀ b off, u.a = some ⟨b, off, none⟩ → m ≤ b) : Apart v u := fun _ b off e e' => by
  have h1 := (h.ownBlock b e').2
  have h2 := hu b off e
  omega
theorem RowV.apart {rk : IntKind} {u : Rv} {r : Ro} {w w' : World} {row : Option Nat} (h : RowV rk u.val r w) (hg : w.grownBy w' row) (hne : u.n ≠ 0 → ∀ b off, u.a = some ⟨b, off, none⟩ → row ≠ some b) : RowV rk u.val r w' := by
  by_cases hn : u.n = 0
  · obtain ⟨a, c, e, hi, h3⟩ := h
    have e2 := Rv.val_inj (v := ⟨a, r.l.length, c, r.wrapped⟩) e
    subst e2
    exact ⟨a, c, rfl, ⟨rfl, .inl (List.eq_nil_of_length_eq_zero hn)⟩, h3⟩
  · exact h.moved hg.size (fun b off e hl => hg.block b hl (fun e' => hne hn b off e e'.symm))
/-- rows that were gathered, in memory of our own -/
structure Gath (T : TypeId) (L : List Nat) (base : Nat) (v : Value) (rs : List Ro) (w : World) : Prop where
  ex : ∃ us, OwnV T base v us w ∧ RowsV .i64 us rs w ∧ (∀ u ∈ us, Off L u) ∧ ∀ u ∈ us, Apart v u
theorem Gath.nil (T : TypeId) (L : List Nat) (base : Nat) (w : World) : Gath T L base (.slice none 0 0) [] w := ⟨[], OwnV.nil _ _ _, RowsV.nil _ _, (fun u hu => by cases hu), (fun u hu => by cases hu)⟩
theorem Gath.belowAll {T : TypeId} {L : List Nat} {base : Nat} {v : Value} {rs : List Ro} {w w' : World} (h : Gath T L base v rs w) (hb : Below w.heap.size w w') : Gath T L base v rs w' := by
  obtain ⟨us, h1, h2, h3, h4⟩ := h
  exact ⟨us, h1.belowAll hb, h2.belowAll hb, h3, h4⟩
theorem Gath.keptB {T : TypeId} {L : List Nat} {base : Nat} {v : Value} {rs : List Ro} {w w' : World} (h : Gath T L base v rs w) (hk : KeepB L w w') (hv : ∀ q, v.ownBlock = some q → q ∉ L) : Gath T L base v rs w' := by
  obtain ⟨us, h1, h2, h3, h4⟩ := h
  refine ⟨us, ?_, ⟨h2.1, fun i u r hu hr => (h2.2 i u r hu hr).keptB (h3 u (List.mem_of_getElem? hu)) hk⟩, h3, h4⟩
  refine ⟨h1.1, ?_⟩
  rcases h1.2 with h0 | ⟨g', c', cur, he, hbase, hgb, hc, hmx, hsz, ht⟩
  · exact .inl h0
  · exact .inr ⟨g', c', cur, he, hbase, (hk.block g' (Array.getElem?_eq_some_iff.1 hgb).1 (hv g' (by rw [he]; rfl))).trans hgb, hc, hmx, hsz, ht⟩
theorem Gath.own {T : TypeId} {L : List Nat} {base : Nat} {v : Value} {rs : List Ro} {w : World} (h : Gath T L base v rs w) : ∀ q, v.ownBlock = some q → base ≤ q ∧ q < w.heap.size ∧ ∃ cs, w.heap[q]? = some (.cells cs T (0, 0)) := fun q hq => by
  obtain ⟨us, h1, -⟩ := h.ex
  obtain ⟨cs, h2, h3, h4⟩ := U.own_type h1 hq
  exact ⟨h3, h4, cs, h2⟩
theorem Gath.shape {T : TypeId} {L : List Nat} {base : Nat} {v : Value} {rs : List Ro} {w : World} (h : Gath T L base v rs w) : ∃ a c, v = .slice a rs.length c ∧ (a = none → c = 0) ∧ ∀ b off, a = some ⟨b, off, none⟩ → v.ownBlock = some b ∧ off = 0 := by
  obtain ⟨us, h1, h2, -⟩ := h.ex
  rcases h1.2 with ⟨rfl, h0⟩ | ⟨g, cap, cur, rfl, _⟩
  · exact ⟨none, 0, by rw [← h2.1, h0], (fun _ => rfl), (fun _ _ e => by cases e)⟩
  · exact ⟨some ⟨g, 0, none⟩, cap, by rw [h2.1], (fun e => by cases e), (fun b off e => by cases e; exact ⟨rfl, rfl⟩)⟩
theorem Gath.rowsL {T : TypeId} {L L' : List Nat} {base : Nat} {a : Option Addr} {n c : Nat} {rs : List Ro} {w : World} (h : Gath T L base (.slice a n c) rs w) (hs : ∀ p ∈ L', p ∈ L) (hL : ∀ p ∈ L', p < base) : RowsL .i64 L' a n c rs w := by
  obtain ⟨us, h1, h2, h3, -⟩ := h.ex
  obtain ⟨a', c', e, -⟩ := h1.shape
  cases e
  exact h1.rowsL h2 (fun u hu hn b off e hb => h3 u hu hn b off e (hs b hb)) hL
theorem Gath.weaken {T : TypeId} {L : List Nat} {base base' : Nat} {v : Value} {rs : List Ro} {w : World} (h : Gath T L base v rs w) (hb : base' ≤ base) : Gath T L base' v rs w := by
  obtain ⟨us, h1, h2, h3, h4⟩ := h
  exact ⟨us, h1.weaken hb, h2, h3, h4⟩
/-- a row more -/
theorem wpList_append_row {t T : TypeId} {bytes : Nat} (hI : RvT t T bytes) {ops : Array Oper} {rest : List Oper} {o : Oper} {z : Act} {w : World} {Q : Exit → Act → World → Prop} (hgd : o.guard = none) (s x : Operand)
    (ho : o.op = .call { callee := .builtin .append, args := #[s, x], argTypes := #[t, t] }) (hty : o.type = t)
    (L : List Nat) (base : Nat) (v : Value) (rs : List Ro) (p : Nat) (u : Rv) (r : Ro) (hs : z.eval s = v) (hxv : z.eval x = .slice (some ⟨p, 0, none⟩) 1 1) (hG : Gath T L base v rs w) (hp : RoB T p (.slice u.a u.n u.c) u.b w) (hu : RowV .i64 u.val r w) (hoff : Off L u) (hap : Apart v u) (h1 : rs.length ≤ 1000) (hbase : base ≤ w.heap.size)
    (hK : ∀ v' w', Gath T L base v' (rs ++ [r]) w' → w.grownBy w' v.ownBlock → (∀ q, v'.ownBlock = some q → v.ownBlock = some q ∨ w.heap.size ≤ q) → wpList Try.prog ops Q rest (z.put o.dst v') w') : wpList Try.prog ops Q (o :: rest) z w :=
  wpList_plain hgd fun _ hK' => by
    obtain ⟨us, h2, h3, h4, h5⟩ := hG.ex
    have hin : RvsIn (some ⟨p, 0, none⟩) 1 1 [u] w := ⟨rfl, Nat.le_refl _, by decide, .inr ⟨p, 0, rfl, hp.lt, fun i d hi => by
      have h0 : i = 0 := by have := (List.getElem?_eq_some_iff.1 hi).1; simp at this; omega
      subst h0
      obtain rfl : u = d := by simpa using hi
      exact ⟨hp.c0, hp.c1⟩⟩⟩
    obtain ⟨v', w', hr, k1, k2⟩ := run_append_rows hI base v us (some ⟨p, 0, none⟩) 1 1 [u] w h2 hin (fun e => by cases e) (by have := h3.1; omega) (by simp) hbase
    have hblk : ∀ q, v'.ownBlock = some q → v.ownBlock = some q ∨ w.heap.size ≤ q := k2.block
    have hrv : RowsV .i64 us rs w' := ⟨h3.1, fun i d q hd hq => (h3.2 i d q hd hq).apart k2.grown (fun hn b off e e' => h5 d (List.mem_of_getElem? hd) hn b off e e')⟩
    have hru : RowV .i64 u.val r w' := hu.apart k2.grown (fun hn b off e e' => hap hn b off e e')
    have hap' : ∀ d : Rv, Apart v d → (d.n ≠ 0 → ∀ b off, d.a = some ⟨b, off, none⟩ → b < w.heap.size) → Apart v' d := fun d hd hl hn b off e e' => by
      rcases hblk b e' with h6 | h6
      · exact hd hn b off e h6
      · have := hl hn b off e; omega
    have hG' : Gath T L base v' (rs ++ [r]) w' := by
      refine ⟨us ++ [u], k1, hrv.snoc hru, fun d hd => ?_, fun d hd => ?_⟩
      · rcases List.mem_append.1 hd with hd | hd
        · exact h4 d hd
        · rw [List.mem_singleton.1 hd]; exact hoff
      · rcases List.mem_append.1 hd with hd | hd
        · refine hap' d (h5 d hd) (fun hn => ?_)
          obtain ⟨i, hi, rfl⟩ := List.mem_iff_getElem.1 hd
          have hi' : i < rs.length := by rw [← h3.1]; exact hi
          exact (h3.2 i _ _ (List.getElem?_eq_getElem hi) (List.getElem?_eq_getElem hi')).lt hn
        · rw [List.mem_singleton.1 hd]
          exact hap' u hap (fun hn => hu.lt hn)
    unfold Oper.wp execOp
    simp only [ho, hty, resolve, invoke, builtin, Sem.run_bind, Sem.run_pure, Result.andThen_ok, List.map_toArray, List.map_cons, List.map_nil, hs, hxv, hr]
    exact hK' _ _ (hK v' w' hG' k2.grown hblk)
end Go.Proofs.Ytjlljkdlgkociaa.K
