/- The law's do of a grid: another size: what stands in memory. -/
import Derived.Test.YtkggmcnocpgnbaaDoorJLdA
import Derived.Test.YtkggmcnocpgnbaaDoorJSev
import Derived.Test.YtkggmcnocpgnbaaDoorJRsz
namespace Go.Proofs.YtkggmcnocpgnbaaDoor.K
open Go.RowKit

theorem mem_sizeGone {x : Gd} {w h off : Int} {r : Ro} (hr : r ∈ (sizeG x w h off).2) : r ∈ x.rs := List.mem_of_mem_take hr
theorem len_sizeGone (x : Gd) (w h off : Int) : (sizeG x w h off).2.length ≤ x.rs.length := by
  show (x.rs.take _).length ≤ _
  rw [List.length_take]; omega
/-- a struct of a number and a slice, and no rows in it -/
def NumB (p : Nat) (w : World) : Prop := ∃ k a n c, w.heap[p]? = some (.cells #[.int .i64 k, .slice a n c] 82 (0, 0))
theorem NumB.off {p : Nat} {u : World} (hp : NumB p u) {L : List Nat} {a : Option Addr} {n c : Nat} {rs : List Ro} (h : RowsL .i64 L a n c rs u) : ∃ vs, RvsIn a n c vs u ∧ RowsV .i64 vs rs u ∧ (∀ v ∈ vs, Off L v) ∧ (n ≠ 0 → ∀ b off, a = some ⟨b, off, none⟩ → b ≠ p) ∧ ∀ v ∈ vs, v.n ≠ 0 → ∀ b off, v.a = some ⟨b, off, none⟩ → b ≠ p := by
  obtain ⟨k, sa, sn, sc, hp⟩ := hp
  obtain ⟨vs, h1, h2, h3⟩ := h.ex
  refine ⟨vs, h1, h2, h3, fun hn b off e e' => ?_, fun v hv hn b off e e' => ?_⟩
  · subst e'
    rcases h1.at_ with h0 | ⟨b', off', ha, _, hi⟩
    · exact hn (by rw [h1.len, h0]; rfl)
    · rw [e] at ha; cases ha
      match vs, h1.len with
      | [], hl => exact hn hl
      | d :: ds, _ =>
        have hc := (hi 0 d rfl).1
        have hc2 := (hi 0 d rfl).2
        simp only [World.cell?, hp] at hc hc2
        match off, hc, hc2 with
        | 0, hc, _ => simp at hc
        | m + 1, _, hc2 => simp at hc2
  · subst e'
    obtain ⟨i, hi, rfl⟩ := List.mem_iff_getElem.1 hv
    have hi' : i < rs.length := by rw [← h2.1]; exact hi
    obtain ⟨a', c', e1, hce, _⟩ := h2.2 i _ _ (List.getElem?_eq_getElem hi) (List.getElem?_eq_getElem hi')
    have e2 := Rv.val_inj (v := ⟨a', _, c', _⟩) e1
    rw [e2] at hn e
    simp only at hn e
    rcases hce.at_ with h0 | ⟨b', off', ha, _, hc⟩
    · exact hn (by show rs[i].l.length = 0; rw [h0]; rfl)
    · rw [e] at ha; cases ha
      obtain ⟨rl, hrl⟩ : ∃ rl, rs[i].l = rl := ⟨_, rfl⟩
      rw [hrl] at hc hn
      match rl, hn with
      | d :: ds, _ =>
        have k2 := (hc 0 d rfl).c2
        simp only [World.cell?, hp] at k2
        match off, k2 with
        | 0, k2 => simp at k2
        | m + 1, k2 => simp at k2
theorem RowsL.other {L : List Nat} {a : Option Addr} {n c : Nat} {rs : List Ro} {u v : World} {p : Nat} (h : RowsL .i64 L a n c rs u) (hp : NumB p u) (hk : KeepB [p] u v) : RowsL .i64 L a n c rs v := by
  obtain ⟨vs, h1, h2, h3, h4, h5⟩ := hp.off h
  have hb : ∀ b, b ≠ p → b < u.heap.size → v.heap[b]? = u.heap[b]? := fun b hb hl => hk.block b hl (fun e => hb (List.mem_singleton.1 e))
  refine ⟨⟨vs, ?_, ⟨h2.1, fun i d r hd hr => ?_⟩, h3⟩, h.nil, h.off⟩
  · by_cases hn : n = 0
    · exact ⟨h1.len, h1.fit, h1.top, .inl (List.eq_nil_of_length_eq_zero (by rw [← h1.len]; exact hn))⟩
    · exact h1.blocks hk.size (fun b off e hl => hb b (h4 hn b off e) hl)
  · by_cases hn : d.n = 0
    · obtain ⟨a', c', e, hi, h6⟩ := h2.2 i d r hd hr
      have e2 := Rv.val_inj (v := ⟨a', r.l.length, c', r.wrapped⟩) e
      subst e2
      exact ⟨a', c', rfl, ⟨rfl, .inl (List.eq_nil_of_length_eq_zero hn)⟩, h6⟩
    · exact (h2.2 i d r hd hr).moved hk.size (fun b off e hl => hb b (h5 d (List.mem_of_getElem? hd) hn b off e) hl)
theorem RefG.other {L : List Nat} {x : Gd} {v : Value} {u w : World} {p : Nat} (h : RefG L v x u) (hp : NumB p u) (hk : KeepB [p] u w) : RefG L v x w := by
  obtain ⟨a, n, c, e, h⟩ := h
  exact ⟨a, n, c, e, h.other hp hk⟩
/-- what the steps keep -/
structure RowR (L : List Nat) (u v : World) : Prop where
  g : ∀ v' y, RefG L v' y u → RefG L v' y v
  r : ∀ a n c rs, RowsL .i64 L a n c rs u → RowsL .i64 L a n c rs v
  n : ∀ p, NumB p u → NumB p v
theorem RowR.refl (L : List Nat) (u : World) : RowR L u u := ⟨fun _ _ h => h, fun _ _ _ _ h => h, fun _ h => h⟩
theorem RowR.below {L : List Nat} {u v : World} (hb : Below u.heap.size u v) : RowR L u v := ⟨fun _ _ h => h.below hb, fun _ _ _ _ h => h.below hb, fun p h => by
  obtain ⟨k, a, n, c, h⟩ := h
  exact ⟨k, a, n, c, (hb.block p (Array.getElem?_eq_some_iff.1 h).1).trans h⟩⟩
/-- the first region of another size -/
def SzT (L : List Nat) (rb : Nat) (y : Gd) : Nat → (Nat → Value) → World → Prop
  | 0, _, _ => True
  | 1, _, _ => True
  | _, f, u => ∃ p a5 n5 c5, f 16 = .pointer (some ⟨p, 0, none⟩) ∧ rb + 3 ≤ p ∧ GrB p y.W (.slice a5 n5 c5) u ∧ RefG ((rb + 2) :: L) (refV y.W a5 n5 c5) y u
def SzS (g q rb : Nat) (L : List Nat) (x y : Gd) (W : Nat) (sv : Value) (A : ActG) (w : World) (k : Nat) (f : Nat → Value) (u : World) : Prop := (DoB g q rb W sv A w u ∧ Gr g q x u ∧ RefG ((rb + 2) :: L) (.agg #[.int .i64 (W : Int), sv]) x u) ∧ SzT L rb y k f u
section
variable {g q rb : Nat} {L : List Nat} {x y : Gd} {W : Nat} {sv : Value} {A : ActG} {w : World}
theorem SzS.cong {k : Nat} {f f2 : Nat → Value} {u : World} (hs : 2 ≤ k → f 16 = f2 16) (h : SzS g q rb L x y W sv A w k f u) : SzS g q rb L x y W sv A w k f2 u := by
  obtain ⟨h1, h2⟩ := h
  refine ⟨h1, ?_⟩
  match k, h2, hs with
  | 0, h2, _ => exact h2
  | 1, h2, _ => exact h2
  | k + 2, h2, hs =>
    obtain ⟨p, a5, n5, c5, h3, h4⟩ := h2
    exact ⟨p, a5, n5, c5, by rw [← hs (by omega)]; exact h3, h4⟩
theorem SzS.more {k : Nat} {f : Nat → Value} {u v : World} (h : SzS g q rb L x y W sv A w k f u) (hlt : g < rb ∧ q < rb) (hb : Below u.heap.size u v) : SzS g q rb L x y W sv A w k f v := by
  obtain ⟨⟨h1, h2, h3⟩, h4⟩ := h
  refine ⟨⟨h1.below hb hlt, h2.below hb, h3.below hb⟩, ?_⟩
  match k, h4 with
  | 0, h4 => exact h4
  | 1, h4 => exact h4
  | k + 2, h4 =>
    obtain ⟨p, a5, n5, c5, h5, h6, h7, h8⟩ := h4
    exact ⟨p, a5, n5, c5, h5, h6, h7.belowAll hb, h8.below hb⟩
theorem SzS.stored {p : Nat} {a5 : Option Addr} {n5 c5 : Nat} {u : World} {f f2 : Nat → Value} (h : SzS g q rb L x y W sv A w 1 f u) (hlt : g < rb ∧ q < rb) (hp : rb + 3 ≤ p) (hN : NumB p u) (hR : RefG ((rb + 2) :: L) (refV y.W a5 n5 c5) y u) (hf : f2 16 = .pointer (some ⟨p, 0, none⟩)) :
    RowR ((rb + 2) :: L) u ((u.setCell ⟨p, 0, none⟩ (.int .i64 (y.W : Int))).setCell ⟨p, 1, none⟩ (.slice a5 n5 c5)) ∧ SzS g q rb L x y W sv A w 2 f2 ((u.setCell ⟨p, 0, none⟩ (.int .i64 (y.W : Int))).setCell ⟨p, 1, none⟩ (.slice a5 n5 c5)) := by
  obtain ⟨⟨h1, h2, h3⟩, -⟩ := h
  have hk : KeepB [p] u ((u.setCell ⟨p, 0, none⟩ (.int .i64 (y.W : Int))).setCell ⟨p, 1, none⟩ (.slice a5 n5 c5)) := (KeepB.setCell _).trans (KeepB.setCell _)
  have hne : ∀ i, i ≠ p → i < u.heap.size → ((u.setCell ⟨p, 0, none⟩ (.int .i64 (y.W : Int))).setCell ⟨p, 1, none⟩ (.slice a5 n5 c5)).heap[i]? = u.heap[i]? := fun i hi hl => hk.block i hl (fun e => hi (List.mem_singleton.1 e))
  have hN' := hN
  obtain ⟨k0, sa, sn, sc, hc⟩ := hN'
  have hp2 := put2 hc (.int .i64 (y.W : Int)) (.slice a5 n5 c5)
  have hsz := h1.sz
  obtain ⟨ra, rbb, hr⟩ := h1.rs
  refine ⟨⟨fun _ _ h => h.other hN hk, fun _ _ _ _ h => h.other hN hk, fun i hi => ?_⟩, ⟨⟨h1.kb.strike2 hk (fun i hi => by rw [List.mem_singleton.1 hi]; omega), h1.xb.kept (hne rb (by omega) h1.xb.lt), h1.ab.kept (hne (rb + 1) (by omega) h1.ab.lt), ⟨_, _, (hne (rb + 2) (by omega) (Array.getElem?_eq_some_iff.1 hr).1).trans hr⟩, hsz⟩, h2.keptB hk (fun e => by rw [List.mem_singleton] at e; omega) (fun e => by rw [List.mem_singleton] at e; omega) (fun i hi _ => by obtain rfl := List.mem_singleton.1 hi; exact ⟨_, _, hc, by decide⟩), h3.other hN hk⟩, p, a5, n5, c5, hf, hp, hp2, hR.other hN hk⟩
  by_cases hip : i = p
  · subst hip
    exact ⟨_, _, _, _, hp2⟩
  · obtain ⟨k, a, n, c, h⟩ := hi
    exact ⟨k, a, n, c, (hne i hip (Array.getElem?_eq_some_iff.1 h).1).trans h⟩
theorem SzS.drew {f f2 : Nat → Value} {u : World} (h : SzS g q rb L x y W sv A w 0 f u) (hlt : g < rb ∧ q < rb) : SzS g q rb L x y W sv A w 0 f2 u.drew := by
  have h2 := h.more hlt ((Below.refl _ _).drew)
  exact ⟨h2.1, trivial⟩
end
/-- while the grid takes another size -/
def SyT (g q rb lo : Nat) (L : List Nat) (x y : Gd) (gone : List Ro) (a5 : Option Addr) (n5 c5 : Nat) (a4 : Option Addr) (n4 c4 : Nat) : Nat → (Nat → Value) → World → Prop
  | 0, _, u => Gr g q x u ∧ RefG ((rb + 2) :: L) (refV y.W a5 n5 c5) y u ∧ RowsL .i64 ((rb + 2) :: L) a4 n4 c4 gone u
  | 1, f, u => ∃ q', lo ≤ q' ∧ Gr g q' y u ∧ RefG (q' :: (rb + 2) :: L) (refV y.W a5 n5 c5) y u ∧ RowsL .i64 ((rb + 2) :: L) a4 n4 c4 gone u ∧ ∃ a m c, f 144 = .slice a m c ∧ RowsL .i32 ((rb + 2) :: L) a m c gone u
  | 2, _, u => ∃ q', lo ≤ q' ∧ Gr g q' y u ∧ RefG (q' :: (rb + 2) :: L) (refV y.W a5 n5 c5) y u
  | _, _, u => ∃ q', lo ≤ q' ∧ Gr g q' y u ∧ RefG (q' :: (rb + 2) :: L) (refV y.W a5 n5 c5) y u ∧ u.heap[rb + 2]? = some (.cells #[.int .i64 (y.W : Int), .slice a5 n5 c5] 82 (0, 0))
def SyS (g q rb p16 lo : Nat) (L : List Nat) (x y : Gd) (gone : List Ro) (a5 : Option Addr) (n5 c5 : Nat) (a4 : Option Addr) (n4 c4 W : Nat) (sv : Value) (A : ActG) (w : World) (k : Nat) (f : Nat → Value) (u : World) : Prop := (DoB g q rb W sv A w u ∧ GrB p16 y.W (.slice a5 n5 c5) u ∧ lo ≤ u.heap.size) ∧ SyT g q rb lo L x y gone a5 n5 c5 a4 n4 c4 k f u
section
variable {g q rb p16 lo : Nat} {L : List Nat} {x y : Gd} {gone : List Ro} {a5 : Option Addr} {n5 c5 : Nat} {a4 : Option Addr} {n4 c4 W : Nat} {sv : Value} {A : ActG} {w : World}
theorem SyS.drew {f f2 : Nat → Value} {u : World} (h : SyS g q rb p16 lo L x y gone a5 n5 c5 a4 n4 c4 W sv A w 0 f u) : SyS g q rb p16 lo L x y gone a5 n5 c5 a4 n4 c4 W sv A w 0 f2 u.drew := by
  obtain ⟨⟨h1, h2, h2'⟩, h3, h4, h5⟩ := h
  have hb : Below u.heap.size u u.drew := (Below.refl _ _).drew
  exact ⟨⟨⟨h1.kb.trans (KeepB.of_below hb), h1.xb.belowAll hb, h1.ab, h1.rs, h1.sz⟩, h2.belowAll hb, h2'⟩, h3.below hb, h4.below hb, h5.below hb⟩
theorem SyS.cong {k : Nat} {f f2 : Nat → Value} {u : World} (hs : k = 1 → f 144 = f2 144) (h : SyS g q rb p16 lo L x y gone a5 n5 c5 a4 n4 c4 W sv A w k f u) : SyS g q rb p16 lo L x y gone a5 n5 c5 a4 n4 c4 W sv A w k f2 u := by
  obtain ⟨h1, h2⟩ := h
  refine ⟨h1, ?_⟩
  match k, h2, hs with
  | 0, h2, _ => exact h2
  | 1, h2, hs =>
    obtain ⟨q', h3, h4, h5, h6, a, m, c, h7, h8⟩ := h2
    exact ⟨q', h3, h4, h5, h6, a, m, c, by rw [← hs rfl]; exact h7, h8⟩
  | 2, h2, _ => exact h2
  | _ + 3, h2, _ => exact h2
theorem SyS.one {v' : World} {u : World} {f : Nat → Value} {a6 : Option Addr} {m6 c6 q' : Nat} {st0 : Act} (h : SyS g q rb p16 lo L x y gone a5 n5 c5 a4 n4 c4 W sv A w 0 f u) (hlt : g < rb ∧ q < rb) (hsub : g ∈ L ∧ q ∈ L) (hs : 144 < st0.tmps.size) (hp : p16 ≠ g) (k1 : RowsL .i32 (q' :: (rb + 2) :: L) a6 m6 c6 gone v') (k2 : Gr g q' y v') (k4 : u.heap.size ≤ q') (k3 : KeepB [g] u v') :
    SyS g q rb p16 lo L x y gone a5 n5 c5 a4 n4 c4 W sv A w 1 (R.slot (st0.put (some 144) (.slice a6 m6 c6))) v' := by
  obtain ⟨⟨h1, h2, h2'⟩, h3, h4, h5⟩ := h
  have hM : ∀ p ∈ [g], p ∈ (rb + 2) :: L := fun p hp => by rw [List.mem_singleton.1 hp]; simp [hsub.1]
  have hM2 : ∀ p ∈ [g], p ∈ q' :: (rb + 2) :: L := fun p hp => by rw [List.mem_singleton.1 hp]; simp [hsub.1]
  refine ⟨⟨h1.keptB (k3.mono (fun p hp => by rw [List.mem_singleton.1 hp]; simp)) hlt, h2.kept (k3.block _ h2.lt (fun e => hp (List.mem_singleton.1 e))), Nat.le_trans h2' k3.size⟩, q', Nat.le_trans h2' k4, k2, (h4.cons k4).keptB2 k3 hM2, h5.keptB2 k3 hM, a6, m6, c6, R.slot_same hs, k1.sub (fun p hp => List.mem_cons_of_mem _ hp)⟩
theorem SyS.two {v' : World} {u : World} {f f2 : Nat → Value} (h : SyS g q rb p16 lo L x y gone a5 n5 c5 a4 n4 c4 W sv A w 1 f u) (hlt : g < rb ∧ q < rb) (hb : Below u.heap.size u v') : SyS g q rb p16 lo L x y gone a5 n5 c5 a4 n4 c4 W sv A w 2 f2 v' := by
  obtain ⟨⟨h1, h2, h2'⟩, q', h3, h4, h5, -⟩ := h
  exact ⟨⟨h1.below hb hlt, h2.belowAll hb, Nat.le_trans h2' hb.size⟩, q', h3, h4.below hb, h5.below hb⟩
theorem SyS.three {u : World} {f f2 : Nat → Value} (h : SyS g q rb p16 lo L x y gone a5 n5 c5 a4 n4 c4 W sv A w 2 f u) (hlt : g < rb ∧ q < rb) (hp : p16 ≠ rb + 2) (hlo : rb + 3 ≤ lo) : SyS g q rb p16 lo L x y gone a5 n5 c5 a4 n4 c4 W sv A w 3 f2 ((u.setCell ⟨rb + 2, 0, none⟩ (.int .i64 (y.W : Int))).setCell ⟨rb + 2, 1, none⟩ (.slice a5 n5 c5)) := by
  obtain ⟨⟨h1, h2, h2'⟩, q', hq', h3, h4⟩ := h
  obtain ⟨ra, rbb, hr⟩ := h1.rs
  have hk : KeepB [rb + 2] u ((u.setCell ⟨rb + 2, 0, none⟩ (.int .i64 (y.W : Int))).setCell ⟨rb + 2, 1, none⟩ (.slice a5 n5 c5)) := (KeepB.setCell _).trans (KeepB.setCell _)
  have hne : ∀ i, i ≠ rb + 2 → i < u.heap.size → ((u.setCell ⟨rb + 2, 0, none⟩ (.int .i64 (y.W : Int))).setCell ⟨rb + 2, 1, none⟩ (.slice a5 n5 c5)).heap[i]? = u.heap[i]? := fun i hi hl => hk.block i hl (fun e => hi (List.mem_singleton.1 e))
  have hsz := h1.sz
  have h3l := h3.lt
  have hp2 := put2 hr (.int .i64 (y.W : Int)) (.slice a5 n5 c5)
  exact ⟨⟨⟨h1.kb.strike2 hk (fun p hp => by rw [List.mem_singleton.1 hp]; omega), h1.xb.kept (hne rb (by omega) h1.xb.lt), h1.ab.kept (hne (rb + 1) (by omega) h1.ab.lt), ⟨_, _, hp2⟩, hsz⟩, h2.kept (hne p16 hp h2.lt), Nat.le_trans h2' hk.size⟩, q', hq', h3.keptB hk (fun e => by rw [List.mem_singleton] at e; omega) (fun e => by rw [List.mem_singleton] at e; omega) (fun p hp _ => by obtain rfl := List.mem_singleton.1 hp; exact ⟨_, _, hr, by decide⟩), h4.keptB2 hk (fun p hp => by rw [List.mem_singleton.1 hp]; simp), hp2⟩
end
end Go.Proofs.YtkggmcnocpgnbaaDoor.K
