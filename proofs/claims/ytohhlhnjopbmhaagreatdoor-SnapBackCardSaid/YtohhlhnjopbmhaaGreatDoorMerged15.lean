/- The program's grid: rows that are made empty; rows that go over others of the same slice. -/
import Derived.Test.YtohhlhnjopbmhaaGreatDoorJThree
import Derived.Test.YtohhlhnjopbmhaaGreatDoorMerged8
namespace Go.Proofs.YtohhlhnjopbmhaaGreatDoor.K
open Go.RowKit

/-- m rows go from s to t -/
def upd (us : List Rv) (t s m : Nat) : List Rv := us.take t ++ (us.drop s).take m ++ us.drop (t + m)
theorem RowsV.inL {rk : IntKind} {us : List Rv} {rs : List Ro} {w : World} (h : RowsV rk us rs w) (t b : Nat) {f : List Rv → List Rv} {f' : List Ro → List Ro} (hf : ∀ us rs, RowsV rk us rs w → RowsV rk (f us) (f' rs) w) : RowsV rk (D.inL us t b f) (D.inL rs t b f') w :=
  ((h.take t).append (hf _ _ ((h.take (b + 1)).drop t))).append (h.drop (b + 1))
theorem RowsV.upR {rk : IntKind} {us : List Rv} {rs : List Ro} {w : World} {u : Rv} {r : Ro} (h : RowsV rk us rs w) (hu : RowV rk u.val r w) (k : Nat) : RowsV rk (D.upR us k u) (D.upR rs k r) w := by
  unfold D.upR
  rw [h.1]
  exact (h.drop k).append (RowsV.rep hu _)
theorem RowsV.downR {rk : IntKind} {us : List Rv} {rs : List Ro} {w : World} {u : Rv} {r : Ro} (h : RowsV rk us rs w) (hu : RowV rk u.val r w) (k : Nat) : RowsV rk (D.downR us k u) (D.downR rs k r) w := by
  unfold D.downR
  rw [h.1]
  exact (RowsV.rep hu _).append (h.take _)
theorem TyC.keptB {base : Nat} {u : Rv} {L : List Nat} {w w' : World} (h : TyC base u w) (hk : KeepB L w w') (hL : ∀ p ∈ L, p < w.heap.size → ∃ cs T, w.heap[p]? = some (.cells cs T (0, 0)) ∧ T ≠ 112) : (∀ b off, u.a = some ⟨b, off, none⟩ → b < w.heap.size → w'.heap[b]? = w.heap[b]?) ∧ TyC base u w' := by
  have hne : ∀ b off, u.a = some ⟨b, off, none⟩ → b < w.heap.size → w'.heap[b]? = w.heap[b]? := fun b off e hl => hk.block b hl (fun hb => by
    obtain ⟨cs, T, hp, hT⟩ := hL b hb hl
    exact h.ne hp hT b off e rfl)
  exact ⟨hne, h.moved hne⟩
end Go.Proofs.YtohhlhnjopbmhaaGreatDoor.K

/- The program's grid: Up and Down. -/
namespace Go.Proofs.YtohhlhnjopbmhaaGreatDoor.K
open Go.RowKit

theorem RowsL.sub {rk : IntKind} {L L' : List Nat} {a : Option Addr} {n c : Nat} {rs : List Ro} {w : World} (h : RowsL rk L' a n c rs w) (hL : ∀ p ∈ L, p ∈ L') : RowsL rk L a n c rs w := by
  obtain ⟨vs, h1, h2, h3⟩ := h.ex
  exact ⟨⟨vs, h1, h2, fun u hu hn b off e hb => h3 u hu hn b off e (hL b hb)⟩, h.nil, fun hn b off e hb => h.off hn b off e (hL b hb)⟩
/-- behind copy and empty: the grid again -/
theorem GridAt.moved {g q : Nat} {x : Gd} {us : List Rv} {cap : Nat} {w w1 w2 w3 : World} {us' : List Rv} {rs' : List Ro} {u : Rv} {r : Ro} (h : GridAt g q x us cap w) (hb : Below w.heap.size w w1) (k2 : KeepB [q] w1 w2) (k3 : KeepB [q] w2 w3)
    (hok : GdOk ⟨x.W, rs'⟩) (ho : OwnV 54 0 (.slice (some ⟨q, 0, none⟩) us.length cap) us' w3) (hl : us'.length = us.length) (hu : RowV .i32 u.val r w3) (ht : TyC 0 u w3)
    (hrv : ∀ W : World, RowsV .i32 us x.rs W → RowV .i32 u.val r W → RowsV .i32 us' rs' W) (hmem : ∀ v ∈ us', v ∈ us ∨ v = u) : GridAt g q ⟨x.W, rs'⟩ us' cap w3 ∧ KeepB [g, q] w w3 := by
  have h1 := h.below hb
  have k13 := k2.trans k3
  obtain ⟨cs, hq⟩ := h1.qb
  have hgq := h.gq
  have hne := fun v (hv : TyC 0 v w1) => hv.keptB k13 (fun p hp _ => by rw [List.mem_singleton.1 hp]; exact ⟨cs, _, hq, by decide⟩)
  have hold : RowsV .i32 us x.rs w3 := h1.rv.moved k13.size (fun v hv => (hne v (h1.ty v hv)).1)
  refine ⟨⟨hok, ?_, by rw [hl]; exact ho, hrv w3 hold hu, fun v hv => ?_⟩, (KeepB.of_below hb).trans (k13.mono (fun i hi => by rw [List.mem_singleton.1 hi]; simp))⟩
  · rw [hl]
    exact (k13.block g h1.lt.1 (fun e => hgq (by simpa using e))).trans h1.gb
  · rcases hmem v hv with hv | rfl
    · exact (hne v (h1.ty v hv)).2
    · exact ht
end Go.Proofs.YtohhlhnjopbmhaaGreatDoor.K

/- The program's grid: Down. -/
namespace Go.Proofs.YtohhlhnjopbmhaaGreatDoor.K
open Go.RowKit

theorem RvsIn.at {q n cap m k C T off len c' : Nat} {us : List Rv} {w : World} (h : RvsIn (some ⟨q, 0, none⟩) n cap us w) (hm : T + m ≤ n) (hk : k ≤ m) (hC : cap - T = C) (ho : k ≠ 0 → off = (T + (m - k)) * 2) (hl : len = k) (hc : c' = C - (m - k)) : RvsIn (some ⟨q, off, none⟩) len c' ((us.take (T + m)).drop (T + (m - k))) w := by
  subst hl hc
  have hn := h.len
  have hf := h.fit
  have h1 := h.sub (T + (m - len)) len (by omega)
  have e1 : T + (m - len) + len = T + m := by omega
  have e2 : cap - (T + (m - len)) = C - (m - len) := by omega
  rw [e1, e2] at h1
  by_cases h0 : len = 0
  · exact ⟨h1.len, h1.fit, h1.top, .inl (List.eq_nil_of_length_eq_zero (by rw [← h1.len]; exact h0))⟩
  · rw [ho h0]; exact h1
end Go.Proofs.YtohhlhnjopbmhaaGreatDoor.K

/- The program's grid: Resize. -/
namespace Go.Proofs.YtohhlhnjopbmhaaGreatDoor.K
open Go.RowKit Go.Shelf

attribute [local go_sem] Oper.semAt_some

/-- the rows that were put, and blanks -/
def szS (W H : Nat) (l : List Ro) : List Ro := (l.map fun r => resizeS r W) ++ List.replicate (H - l.length) (blankR W 0)
theorem GridAt.grown {g q : Nat} {x : Gd} {us : List Rv} {cap : Nat} {w w' : World} {row : Option Nat} (h : GridAt g q x us cap w) (hg : w.grownBy w' row) (hr : ∀ r, row = some r → ∃ o : Obj, w.heap[r]? = some o ∧ o.isCells = false) : GridAt g q x us cap w' := by
  have hk : ∀ (i : Nat) (cs : Array Value) (T : TypeId) fr, w.heap[i]? = some (Obj.cells cs T fr) → w'.heap[i]? = some (Obj.cells cs T fr) := fun i cs T fr hi => (hg.block i (Array.getElem?_eq_some_iff.1 hi).1 (fun e => by
    obtain ⟨o, ho, hc⟩ := hr i e.symm
    rw [hi] at ho; cases ho; cases hc)).trans hi
  have hne : ∀ u ∈ us, ∀ b off, u.a = some ⟨b, off, none⟩ → b < w.heap.size → w'.heap[b]? = w.heap[b]? := fun u hu b off e _ => by
    obtain ⟨_, cs, h5⟩ := h.ty u hu b off e
    rw [h5]; exact hk _ _ _ _ h5
  refine ⟨h.ok, hk _ _ _ _ h.gb, h.own.kept hg (fun k hq e => ?_), h.rv.moved hg.size hne, fun u hu => (h.ty u hu).moved (hne u hu)⟩
  obtain ⟨o, ho, hc⟩ := hr k e
  exact absurd (row_cellsV h.own hq ho) (by rw [hc]; decide)
theorem KeepB.grown {L : List Nat} {w w' w'' : World} {row : Option Nat} (h : KeepB L w w') (hg : w'.grownBy w'' row) (hr : ∀ r, row = some r → w.heap.size ≤ r) : KeepB L w w'' :=
  ⟨hg.os.trans h.os, hg.tape.trans h.tape, hg.output.trans h.output, Nat.le_trans h.size hg.size, fun i hi hn => (hg.block i (Nat.lt_of_lt_of_le hi h.size) (fun e => by have := hr i e.symm; omega)).trans (h.block i hi hn)⟩
theorem KeepB.from_ {L : List Nat} {w w' : World} (h : KeepB L w w') (hL : ∀ p ∈ L, p < w.heap.size → ∃ cs T, w.heap[p]? = some (.cells cs T (0, 0))) (B : Nat) : KeepsFrom B w w' := ⟨h.size, fun i o _ hi ho => h.block1 hi (fun e => by
  obtain ⟨cs, T, hp⟩ := hL i e (Array.getElem?_eq_some_iff.1 hi).1
  rw [hi] at hp; cases hp; cases ho)⟩
/-- an iterator's rows, with runes of 32 bits -/
abbrev ItR (w : World) := { x : It w // AllC Rng x.r.l }
def ItR.u {w : World} (x : ItR w) : Rv := x.1.u
def ItR.r {w : World} (x : ItR w) : Ro := x.1.r
/-- between two rounds of Resize: the first rows are put -/
structure RsI (W H P r qr m : Nat) (w : World) (l : List Ro) (k : Nat) (V : World) : Prop where
  p : Boxed V P 94 (.pointer (some ⟨r, 0, none⟩))
  y : Boxed V (P + 1) 3 (.int .i64 (k : Int))
  g : Gr r qr ⟨W, szS W H l⟩ V
  b : Below m w V
theorem Gr.grown {g q : Nat} {x : Gd} {w w' : World} {row : Option Nat} (h : Gr g q x w) (hg : w.grownBy w' row) (hr : ∀ r, row = some r → ∃ o : Obj, w.heap[r]? = some o ∧ o.isCells = false) : Gr g q x w' := by
  obtain ⟨us, cap, h⟩ := h
  exact ⟨us, cap, h.grown hg hr⟩
theorem boxed_grown {V V' : World} {B : Nat} {t : TypeId} {v : Value} {row : Option Nat} (h : Boxed V B t v) (hg : V.grownBy V' row) (hr : ∀ r, row = some r → ∃ o : Obj, V.heap[r]? = some o ∧ o.isCells = false) : Boxed V' B t v := h.kept hg (fun e => by
  obtain ⟨o, ho, hc⟩ := hr B e.symm
  rw [show V.heap[B]? = _ from h] at ho; cases ho; cases hc)
theorem RsI.grown {W H P r qr m : Nat} {w : World} {l : List Ro} {k : Nat} {V V' : World} {row : Option Nat} (h : RsI W H P r qr m w l k V) (hm : m ≤ V.heap.size) (hg : V.grownBy V' row) (hr : ∀ r, row = some r → m ≤ r ∧ ∃ o : Obj, V.heap[r]? = some o ∧ o.isCells = false) : RsI W H P r qr m w l k V' :=
  ⟨boxed_grown h.p hg (fun r e => (hr r e).2), boxed_grown h.y hg (fun r e => (hr r e).2), h.g.grown hg (fun r e => (hr r e).2), h.b.grown hg hm (fun r e => (hr r e).1)⟩
/-- a struct of two cells that is put over another one -/
theorem put2 {V : World} {g : Nat} {a b : Value} {T : TypeId} (h : V.heap[g]? = some (.cells #[a, b] T (0, 0))) (u v : Value) : ((V.setCell ⟨g, 0, none⟩ u).setCell ⟨g, 1, none⟩ v).heap[g]? = some (.cells #[u, v] T (0, 0)) := by
  simp [World.setCell, Array.getElem?_modify, h]
theorem GridAt.put {g r qr : Nat} {y : Gd} {vs : List Rv} {cap' : Nat} {V : World} {a b : Value} (h : GridAt r qr y vs cap' V) (hg : V.heap[g]? = some (.cells #[a, b] 137 (0, 0))) (hne : g ≠ qr) : GridAt g qr y vs cap' ((V.setCell ⟨g, 0, none⟩ (.int .i64 (y.W : Int))).setCell ⟨g, 1, none⟩ (.slice (some ⟨qr, 0, none⟩) vs.length cap')) := by
  have hk : KeepB [g] V ((V.setCell ⟨g, 0, none⟩ (.int .i64 (y.W : Int))).setCell ⟨g, 1, none⟩ (.slice (some ⟨qr, 0, none⟩) vs.length cap')) := (KeepB.setCell _).trans (KeepB.setCell _)
  have hk' : ∀ u ∈ vs, ∀ b off, u.a = some ⟨b, off, none⟩ → b < V.heap.size → ((V.setCell ⟨g, 0, none⟩ (.int .i64 (y.W : Int))).setCell ⟨g, 1, none⟩ (.slice (some ⟨qr, 0, none⟩) vs.length cap')).heap[b]? = V.heap[b]? := fun u hu b off e hl => hk.block b hl (fun hb => (h.ty u hu).ne hg (by decide) b off e (by simpa using hb))
  refine ⟨h.ok, put2 hg _ _, ?_, h.rv.moved hk.size hk', fun u hu => (h.ty u hu).moved (hk' u hu)⟩
  have ho := h.own
  refine ⟨ho.1, ?_⟩
  rcases ho.2 with ⟨h0, _⟩ | ⟨g', c', cur, he, hbase, hgb, hc, hmx, hsz, ht⟩
  · cases h0
  · cases he
    exact .inr ⟨_, _, cur, rfl, hbase, (hk.block qr h.lt.2 (fun e => hne (List.mem_singleton.1 e).symm)).trans hgb, hc, hmx, hsz, ht⟩
end Go.Proofs.YtohhlhnjopbmhaaGreatDoor.K

/- The contracts of slices.Equal at cells, and of the program's Same. -/
namespace Go.Proofs.YtohhlhnjopbmhaaGreatDoor.K
open Go.Proofs.YtohhlhnjopbmhaaGreatDoor.R (agree_frame)
open Go.RowKit

theorem take_one {α : Type} (l : List α) (j : Nat) (h : j < l.length) : l.take (j + 1) = l.take j ++ [l[j]] := by
  rw [List.take_add_one, List.getElem?_eq_getElem h]; rfl
def EqOk (x s t x' s' t' : Int) (b1 o1 b2 o2 n c1 c2 j : Nat) (d : Bool) : Nat → Value → World → Prop
  | 0, u, _ => u = .slice (some ⟨b1, o1, none⟩) n c1
  | 1, u, _ => u = .int .i64 (j : Int)
  | 2, u, _ => u = .pointer (some ⟨b1, o1 + j * 3, none⟩)
  | 3, u, _ => u = .agg #[.int .i32 x, .int .i64 s, .int .i64 t]
  | 4, u, _ => u = .slice (some ⟨b2, o2, none⟩) n c2
  | 5, u, _ => u = .int .i64 (j : Int)
  | 6, u, _ => u = .pointer (some ⟨b2, o2 + j * 3, none⟩)
  | 7, u, _ => u = (.agg #[.int .i32 x', .int .i64 s', .int .i64 t'])
  | 8, u, _ => u = .bool d
  | _, _, _ => True
set_option maxRecDepth 100000 in
set_option maxHeartbeats 8000000 in
theorem equal_any (a1 a2 : Option Addr) (n n2 c1 c2 : Nat) (l1 l2 : List Cel) (w : World) (h1 : CelsIn .i32 a1 n l1 w) (h2 : CelsIn .i32 a2 n2 l2 w) (hn : (n : Int) ≤ 1000000) (hn2 : (n2 : Int) ≤ 1000000) :
    Calls Tryz.prog 68 #[.slice a1 n c1, .slice a2 n2 c2] w fun e w' => e = .returned (.bool (decide (l1 = l2))) ∧ Below w.heap.size w w' := by
  obtain ⟨rb, hrb⟩ : ∃ rb, w.heap.size = rb := ⟨_, rfl⟩
  rw [hrb]
  obtain ⟨D, hD⟩ : ∃ D, decide (l1 = l2) = D := ⟨_, rfl⟩
  obtain ⟨P, hP⟩ : ∃ P : Ending → World → Prop, (fun e w' => e = .returned (.bool D) ∧ Below rb w w') = P := ⟨_, rfl⟩
  rw [hD, hP]
  have HP := Lib.hid hP
  have HD := Lib.hid hD
  have HL1 := Lib.hid h1.len
  have HL2 := Lib.hid h2.len
  have H1 := Lib.hid h1
  have H2 := Lib.hid h2
  have HRb := Lib.hid hrb
  by_cases hnn : n = n2
  · subst hnn
    have q1 : ((n : Int) != (n : Int)) = false := by simp
    clear hP hD h1 h2 hrb hn2
    go_enter Tryz.func68, Tryz.ntmps68
    go_wp2_with fail
    go_loopw [13] (fun i wr => ∃ j : Nat, i = .int .i64 (j : Int) ∧ j ≤ n ∧ Hid (l1.take j = l2.take j ∧ Below rb w wr)) (fun i _ => n - (intOf i).toNat)
    case atStart => exact ⟨0, rfl, by omega, Lib.hid ⟨by simp, Below.refl _ _⟩⟩
    case round =>
      obtain ⟨j, rfl, hj, HF⟩ := hrel
      by_cases hlt : j < n
      · have hd : decide (j < n) = true := by simp; omega
        have hj1 : j < l1.length := by rw [← HL1.out]; exact hlt
        have hj2 : j < l2.length := by rw [← HL2.out]; exact hlt
        obtain ⟨b1, o1, rfl, hb1, hA1⟩ := H1.out.at_.resolve_left (by intro e; rw [e] at hj1; simp at hj1)
        obtain ⟨b2, o2, rfl, hb2, hA2⟩ := H2.out.at_.resolve_left (by intro e; rw [e] at hj2; simp at hj2)
        have hat1 := (hA1 j l1[j] (List.getElem?_eq_getElem hj1)).block (HF.out.2.block b1 (by rw [← HRb.out]; exact hb1))
        have hat2 := (hA2 j l2[j] (List.getElem?_eq_getElem hj2)).block (HF.out.2.block b2 (by rw [← HRb.out]; exact hb2))
        have hs1 := take_one l1 j hj1
        have hs2 := take_one l2 j hj2
        obtain ⟨k1, hk1⟩ : ∃ k, l1[j] = k := ⟨_, rfl⟩
        obtain ⟨k2, hk2⟩ : ∃ k, l2[j] = k := ⟨_, rfl⟩
        rw [hk1] at hat1 hs1
        rw [hk2] at hat2 hs2
        obtain ⟨x, s, t⟩ := k1
        obtain ⟨x', s', t'⟩ := k2
        have HX0 := Lib.hid hat1.c0
        have HX1 := Lib.hid hat1.c1
        have HX2 := Lib.hid hat1.c2
        have HY0 := Lib.hid hat2.c0
        have HY1 := Lib.hid hat2.c1
        have HY2 := Lib.hid hat2.c2
        have hbw := HF.out.2.size
        have HX : Hid (b1 < wr.heap.size) := Lib.hid (by have := HF.out.2.size; omega)
        have HY : Hid (b2 < wr.heap.size) := Lib.hid (by have := HF.out.2.size; omega)
        have HS1 := Lib.hid hs1
        have HS2 := Lib.hid hs2
        have HK1 := Lib.hid hk1
        have HK2 := Lib.hid hk2
        obtain ⟨dd, hdd⟩ : ∃ dd, (!(decide (x = x') && decide (s = s') && decide (t = t'))) = dd := ⟨_, rfl⟩
        have HDd := Lib.hid hdd
        clear hA1 hA2 hat1 hat2 hs1 hs2 hk1 hk2 hdd hb1 hb2 hbw
        go_upto_region 6 with fail
        refine Go.Proofs.YtohhlhnjopbmhaaGreatDoor.R.wp_region_tail 9 (by kernel_rfl) (fun u => Below wr.heap.size wr u) (fun u v => Below u.heap.size u v) (EqOk x s t x' s' t' b1 o1 b2 o2 n c1 c2 j dd) (by rfl) (by kernel_rfl) (by decide) (by kernel_rfl) (by kernel_rfl) (by kernel_rfl) ?hC ?hOk ?hop ?hdone ((Below.refl _ _).drew)
        case hC => exact fun u v h1 h2 => h1.trans (h2.mono h1.size)
        case hOk =>
          intro i u w w' h _
          unfold EqOk at h ⊢
          split <;> first | exact True.intro | exact h
        case hop =>
          refine ⟨?_, ?_, ?_, ?_, ?_, ?_, ?_, ?_, ?_, trivial⟩
          · intro z v hz hag hdep
            refine .inl ⟨rfl, fun K hK => ?_⟩
            have d0 : z.tmps.getD 0 undef = .slice (some ⟨b1, o1, none⟩) n c1 := hag.2.2 0 (by kernel_rfl)
            have e0 := d0
            rw [Array.getD_eq_getD_getElem?] at e0
            clear hdep hag 
            go_simp
            exact hK _ _ (Below.refl _ _) rfl
          · intro z v hz hag hdep
            refine .inl ⟨rfl, fun K hK => ?_⟩
            have d5 : z.tmps.getD 5 undef = .int .i64 (j : Int) := hag.2.2 5 (by kernel_rfl)
            have e5 := d5
            rw [Array.getD_eq_getD_getElem?] at e5
            clear hdep hag 
            go_simp
            exact hK _ _ (Below.refl _ _) rfl
          · intro z v hz hag hdep
            refine .inl ⟨rfl, fun K hK => ?_⟩
            have d16 : z.tmps.getD 16 undef = .slice (some ⟨b1, o1, none⟩) n c1 := hdep { on := 0, ground := .data } (by simp) rfl _ _ rfl rfl
            have e16 := d16
            rw [Array.getD_eq_getD_getElem?] at e16
            have d17 : z.tmps.getD 17 undef = .int .i64 (j : Int) := hdep { on := 1, ground := .data } (by simp) rfl _ _ rfl rfl
            have e17 := d17
            rw [Array.getD_eq_getD_getElem?] at e17
            clear hdep hag 
            go_simp
            exact hK _ _ (Below.refl _ _) rfl
          · intro z v hz hag hdep
            refine .inl ⟨rfl, fun K hK => ?_⟩
            have d18 : z.tmps.getD 18 undef = .pointer (some ⟨b1, o1 + j * 3, none⟩) := hdep { on := 2, ground := .data } (by simp) rfl _ _ rfl rfl
            have e18 := d18
            rw [Array.getD_eq_getD_getElem?] at e18
            have l0 : v.cell? ⟨b1, o1 + j * 3, none⟩ = some (.int .i32 x) := (hz.cell (p := ⟨b1, o1 + j * 3 + 0, none⟩) HX.out).trans HX0.out
            have l1 : v.cell? ⟨b1, o1 + j * 3 + 1, none⟩ = some (.int .i64 s) := (hz.cell (p := ⟨b1, o1 + j * 3 + 1, none⟩) HX.out).trans HX1.out
            have l2 : v.cell? ⟨b1, o1 + j * 3 + 2, none⟩ = some (.int .i64 t) := (hz.cell (p := ⟨b1, o1 + j * 3 + 2, none⟩) HX.out).trans HX2.out
            clear hdep hag 
            go_simp
            exact hK _ _ (Below.refl _ _) rfl
          · intro z v hz hag hdep
            refine .inl ⟨rfl, fun K hK => ?_⟩
            have d1 : z.tmps.getD 1 undef = .slice (some ⟨b2, o2, none⟩) n c2 := hag.2.2 1 (by kernel_rfl)
            have e1 := d1
            rw [Array.getD_eq_getD_getElem?] at e1
            clear hdep hag 
            go_simp
            exact hK _ _ (Below.refl _ _) rfl
          · intro z v hz hag hdep
            refine .inl ⟨rfl, fun K hK => ?_⟩
            have d5 : z.tmps.getD 5 undef = .int .i64 (j : Int) := hag.2.2 5 (by kernel_rfl)
            have e5 := d5
            rw [Array.getD_eq_getD_getElem?] at e5
            clear hdep hag 
            go_simp
            exact hK _ _ (Below.refl _ _) rfl
          · intro z v hz hag hdep
            refine .inl ⟨rfl, fun K hK => ?_⟩
            have d20 : z.tmps.getD 20 undef = .slice (some ⟨b2, o2, none⟩) n c2 := hdep { on := 4, ground := .data } (by simp) rfl _ _ rfl rfl
            have e20 := d20
            rw [Array.getD_eq_getD_getElem?] at e20
            have d21 : z.tmps.getD 21 undef = .int .i64 (j : Int) := hdep { on := 5, ground := .data } (by simp) rfl _ _ rfl rfl
            have e21 := d21
            rw [Array.getD_eq_getD_getElem?] at e21
            clear hdep hag 
            go_simp
            exact hK _ _ (Below.refl _ _) rfl
          · intro z v hz hag hdep
            refine .inl ⟨rfl, fun K hK => ?_⟩
            have d22 : z.tmps.getD 22 undef = .pointer (some ⟨b2, o2 + j * 3, none⟩) := hdep { on := 6, ground := .data } (by simp) rfl _ _ rfl rfl
            have e22 := d22
            rw [Array.getD_eq_getD_getElem?] at e22
            have l0 : v.cell? ⟨b2, o2 + j * 3, none⟩ = some (.int .i32 x') := (hz.cell (p := ⟨b2, o2 + j * 3 + 0, none⟩) HY.out).trans HY0.out
            have l1 : v.cell? ⟨b2, o2 + j * 3 + 1, none⟩ = some (.int .i64 s') := (hz.cell (p := ⟨b2, o2 + j * 3 + 1, none⟩) HY.out).trans HY1.out
            have l2 : v.cell? ⟨b2, o2 + j * 3 + 2, none⟩ = some (.int .i64 t') := (hz.cell (p := ⟨b2, o2 + j * 3 + 2, none⟩) HY.out).trans HY2.out
            clear hdep hag 
            go_simp
            exact hK _ _ (Below.refl _ _) rfl
          · intro z v hz hag hdep
            refine .inl ⟨rfl, fun K hK => ?_⟩
            have d19 : z.tmps.getD 19 undef = .agg #[.int .i32 x, .int .i64 s, .int .i64 t] := hdep { on := 3, ground := .data } (by simp) rfl _ _ rfl rfl
            have e19 := d19
            rw [Array.getD_eq_getD_getElem?] at e19
            have d23 : z.tmps.getD 23 undef = (.agg #[.int .i32 x', .int .i64 s', .int .i64 t']) := hdep { on := 7, ground := .data } (by simp) rfl _ _ rfl rfl
            have e23 := d23
            rw [Array.getD_eq_getD_getElem?] at e23
            clear hdep hag hz
            go_simp
            have hk := hK (.bool dd) v (Below.refl _ _) rfl
            have hdd := HDd.out
            by_cases hx : x = x'
            · rw [if_pos hx]
              by_cases hs : s = s'
              · rw [if_pos hs]
                by_cases ht : t = t'
                · rw [if_pos ht]; rw [show dd = false by rw [← hdd]; simp [hx, hs, ht]] at hk; exact hk
                · rw [if_neg ht]; rw [show dd = true by rw [← hdd]; simp [ht]] at hk; exact hk
              · rw [if_neg hs]; rw [show dd = true by rw [← hdd]; simp [hs]] at hk; exact hk
            · rw [if_neg hx]; rw [show dd = true by rw [← hdd]; simp [hx]] at hk; exact hk
        case hdone =>
          intro z v hz hag hok hno
          clear hno
          have d24 : z.tmps.getD 24 undef = .bool dd := hok 8 _ 24 (by decide) rfl rfl
          obtain ⟨uu, hu, hzz⟩ := agree_frame [16, 17, 18, 19, 20, 21, 22, 23, 24] rfl hag
          have e24 := (hu 24).trans d24
          subst hzz
          have HZ : Hid (Below rb w v) := Lib.hid (HF.out.2.trans (hz.mono (by have := HF.out.2.size; have := HRb.out; omega)))
          clear d24 hu hag hok hz
          simp only [List.foldl_cons, List.foldl_nil]
          rw [e24]
          clear e24
          dsimp only [List.drop]
          simp only [wpList]
          dsimp only [Exit.then]
          simp only [List.setIfInBounds_toArray, List.set_cons_succ, List.set_cons_zero]
          generalize uu 16 = u16', uu 17 = u17', uu 18 = u18', uu 19 = u19', uu 20 = u20', uu 21 = u21', uu 22 = u22', uu 23 = u23'
          clear uu HX0 HX1 HX2 HY0 HY1 HY2 HX HY hd
          cases dd
          · rename_i KK aa
            apply aa
            go_upto_region 8 with fail
            go_wp2
            go_roundw
            case rel => exact ⟨j + 1, by go_num, by omega, Lib.hid ⟨by
                have h := HDd.out
                simp at h
                rw [HS1.out, HS2.out, HF.out.1, h.1.1, h.1.2, h.2], HZ.out⟩⟩
            case measure => simp [intOf]; omega
          · have hne : ¬ l1 = l2 := by
              intro e
              have h1 := HK1.out
              have h2 := HK2.out
              have h3 : l1[j]? = l2[j]? := by rw [e]
              rw [List.getElem?_eq_getElem hj1, List.getElem?_eq_getElem hj2, h1, h2] at h3
              have h := HDd.out
              cases h3
              simp at h
            obtain rfl : D = false := by rw [← HD.out]; simp [hne]
            clear hne
            rename_i KK aa
            apply aa
            go_wp2
            rw [← HP.out]
            exact ⟨rfl, HZ.out⟩
      · obtain rfl : j = n := by omega
        have hd : decide ((j : Int) < (j : Int)) = false := by simp
        have he : l1 = l2 := by
          have h := HF.out.1
          rw [List.take_of_length_le (Nat.le_of_eq HL1.out.symm), List.take_of_length_le (Nat.le_of_eq HL2.out.symm)] at h
          exact h
        obtain rfl : D = true := by rw [← HD.out]; simp [he]
        clear he
        go_wp2
        rw [← HP.out]
        exact ⟨rfl, HF.out.2⟩
  · have hne : ¬ l1 = l2 := fun e => hnn (by rw [h1.len, h2.len, e])
    have q1 : ((n : Int) != (n2 : Int)) = true := by rw [bne_iff_ne]; omega
    obtain rfl : D = false := by rw [← hD]; simp [hne]
    clear hP hD h1 h2 hrb hnn hne
    go_enter Tryz.func68, Tryz.ntmps68
    go_wp2_with fail
    rw [← HP.out]
    exact ⟨rfl, Below.refl _ _⟩

set_option maxRecDepth 100000 in
set_option maxHeartbeats 8000000 in
theorem rowSame_any (a1 a2 : Option Addr) (n1 n2 c1 c2 : Nat) (r1 r2 : Bool) (l1 l2 : List Cel) (w : World) (h1 : CelsIn .i32 a1 n1 l1 w) (h2 : CelsIn .i32 a2 n2 l2 w) (hn : (n1 : Int) ≤ 1000000) (hn2 : (n2 : Int) ≤ 1000000) :
    Calls Tryz.prog 48 #[.agg #[.slice a1 n1 c1, .bool r1], .agg #[.slice a2 n2 c2, .bool r2]] w fun e w' => e = .returned (.bool (decide ((⟨l1, r1⟩ : Ro) = ⟨l2, r2⟩))) ∧ Below w.heap.size w w' := by
  obtain ⟨rb, hrb⟩ : ∃ rb, w.heap.size = rb := ⟨_, rfl⟩
  rw [hrb]
  obtain ⟨D, hD⟩ : ∃ D, decide ((⟨l1, r1⟩ : Ro) = ⟨l2, r2⟩) = D := ⟨_, rfl⟩
  rw [hD]
  obtain ⟨w2, hw2⟩ : ∃ w2, (w.alloc (.cells #[.slice a1 n1 c1, .bool r1] 54)).alloc (.cells #[.slice a2 n2 c2, .bool r2] 54) = w2 := ⟨_, rfl⟩
  have hb2 : Below rb w w2 := by rw [← hw2, ← hrb]; exact ((Below.refl _ _).alloc (Nat.le_refl _) _).alloc (by simp) _
  have hq1 : RoB 54 rb (.slice a1 n1 c1) r1 w2 := by rw [← hw2, ← hrb]; exact (RoB.new _ _ _ _).belowAll ((Below.refl _ _).alloc (Nat.le_refl _) _)
  have hq2 : RoB 54 (rb + 1) (.slice a2 n2 c2) r2 w2 := by
    have h := RoB.new 54 (w.alloc (.cells #[.slice a1 n1 c1, .bool r1] 54)) (.slice a2 n2 c2) r2
    rw [World.size_alloc, hrb, hw2] at h
    exact h
  have HE := Lib.hid (equal_any a1 a2 n1 n2 c1 c2 l1 l2 w2 (h1.belowAll (by rw [hrb]; exact hb2)) (h2.belowAll (by rw [hrb]; exact hb2)) hn hn2)
  have c0 := hq1.c0
  have c1' := hq1.c1
  have c2' := hq2.c0
  have c3 := hq2.c1
  have HSz : Hid (rb ≤ w2.heap.size) := Lib.hid (by have := hb2.size; omega)
  have HB2 := Lib.hid hb2
  have HW2 := Lib.hid hw2
  have HRb := Lib.hid hrb
  have HD := Lib.hid hD
  clear hb2 hq1 hq2 hw2 hrb hD h1 h2
  by_cases hr : r1 = r2
  · subst hr
    have hDe : decide (l1 = l2) = D := by rw [← HD.out]; simp
    rw [hDe] at HE
    clear hDe
    have q : (r1 == r1) = true := by simp
    go_enter Tryz.func48, Tryz.ntmps48
    go_upto_region 1 with fail
    rw [HW2.out, HRb.out]
    go_wp2_with (go_at_call 68; refine HE.out.mono ?_; rintro e w3 ⟨rfl, hb3⟩)
    go_ret
    exact ⟨rfl, HB2.out.trans (hb3.mono HSz.out)⟩
  · have hDe : D = false := by rw [← HD.out]; simp [hr]
    subst hDe
    have q : (r1 == r2) = false := by rw [beq_eq_false_iff_ne]; exact hr
    have hway : (r1 = true ∧ r2 = false) ∨ (r1 = false ∧ r2 = true) := by
      cases r1 <;> cases r2 <;> simp at hr ⊢
    clear hr HD
    rcases hway with ⟨rfl, rfl⟩ | ⟨rfl, rfl⟩
    all_goals
      go_enter Tryz.func48, Tryz.ntmps48
      go_upto_region 1 with fail
      rw [HW2.out, HRb.out]
      go_wp2_with fail
      go_ret
      exact ⟨rfl, HB2.out⟩
end Go.Proofs.YtohhlhnjopbmhaaGreatDoor.K
