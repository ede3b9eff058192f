/- The contract of book.Add: rows more. -/
import Derived.Test.YtkggmcnocpgnbaaDoorBEnd
import Derived.Test.YtkggmcnocpgnbaaDoorVGly
import Derived.Test.YtkggmcnocpgnbaaDoorMerged10
namespace Go.Proofs.YtkggmcnocpgnbaaDoor.K
open Go.RowKit

theorem KeepB.join {L M : List Nat} {w u v : World} (h : KeepB L w u) (k : KeepB M u v) (hM : ∀ p ∈ M, p ∈ L ∨ w.heap.size ≤ p) : KeepB L w v :=
  ⟨k.os.trans h.os, k.tape.trans h.tape, k.output.trans h.output, Nat.le_trans h.size k.size, fun i hi hn => (k.block i (Nat.lt_of_lt_of_le hi h.size) (fun hm => by
    rcases hM i hm with h1 | h1
    · exact hn h1
    · omega)).trans (h.block i hi hn)⟩
theorem rngG_append {l l2 : List (Int × Int)} (h : RngG l) (h2 : RngG l2) : RngG (l ++ l2) := fun g hg => by
  rcases List.mem_append.1 hg with hg | hg
  · exact h g hg
  · exact h2 g hg
theorem cutB_mem (x : Bk) : ∀ g ∈ (cutB x).G, g ∈ x.G := by
  intro g hg
  rw [cutB] at hg
  split at hg
  · have := cutB_mem (endB x 1024) g hg
    exact List.mem_of_mem_drop this
  · exact hg
termination_by x.G.length
decreasing_by
  show (x.G.drop 1024).length < _
  rw [List.length_drop]
  omega
theorem addB_rng {x : Bk} {r : Ro} (h : RngG x.G) (hr : AllC Rng r.l) : RngG (addB x r).G := fun g hg => by
  have h2 : ∀ g ∈ (cutB ⟨x.L, x.G ++ glyphs r⟩).G, -2147483648 ≤ g.1 ∧ g.1 ≤ 2147483647 := fun g hg => rngG_append h (rngG_glyphs hr) g (cutB_mem _ g hg)
  unfold addB at hg
  split at hg
  · exact h2 g hg
  · exact h2 g (List.mem_of_mem_drop hg)
theorem addsB_rng {x : Bk} : ∀ {rs : List Ro}, RngG x.G → (∀ r ∈ rs, AllC Rng r.l) → RngG (addsB x rs).G
  | [], h, _ => h
  | r :: rs, h, hr => addsB_rng (x := addB x r) (rs := rs) (addB_rng h (hr r (by simp))) (fun q hq => hr q (List.mem_cons_of_mem _ hq))
theorem addsB_count {x : Bk} (h : BkOk x) : ∀ (rs : List Ro), (∀ r ∈ rs, r.l.length ≤ 1024) → (addsB x rs).L.length ≤ x.L.length + 2 * rs.length
  | [], _ => Nat.le_refl _
  | r :: rs, hr => by
    have h1 := addB_count h r (hr r (by simp))
    have h2 := addsB_count (addB_ok h r) rs (fun q hq => hr q (List.mem_cons_of_mem _ hq))
    show (addsB (addB x r) rs).L.length ≤ _
    rw [List.length_cons]
    omega
theorem rowGlyphs_any {ra : Option Addr} {rn rc : Nat} {rw : Bool} {r : Ro} {w : World} (h : RowV .i32 (.agg #[.slice ra rn rc, .bool rw]) r w) (hn : r.l.length ≤ 1000000) :
    Calls Tryd.prog 32 #[.agg #[.slice ra rn rc, .bool rw]] w (GlyPost w.heap.size (glyphs r) w) := by
  obtain ⟨rfl, i1, -, e2, e3, e1⟩ := h.of
  exact glyphs_any ra rn rc r.wrapped r.l w i1 (by omega) e2 e3
/-- ahead of the append -/
structure A0 (b : Nat) (M N : List Nat) (x : Bk) (vl vb : Value) (us : List Lv) (rp : Nat) (ra : Option Addr) (rn rc : Nat) (rw : Bool) (r : Ro) (w1 u : World) : Prop where
  bo : BoAt b M N x vl vb us u
  keep : KeepB M w1 u
  ro : RoB 27 rp (.slice ra rn rc) rw u
  cels : RowV .i32 (.agg #[.slice ra rn rc, .bool rw]) r u
/-- behind it -/
structure A1 (b : Nat) (M N : List Nat) (x : Bk) (vl vb : Value) (us : List Lv) (r : Ro) (w1 : World) (v : Value) (u : World) : Prop where
  bb : u.heap[b]? = some (.cells #[vl, vb] 99 (0, 0))
  own : OwnL 0 vl us u
  q : OwnQ .i32 61 0 v (x.G ++ glyphs r) u
  lv : LinesV us x.L u
  keep : KeepB M w1 u
  blk : ∀ q, v.ownBlock = some q → q ∈ M ∨ w1.heap.size ≤ q
  off : ∀ d ∈ us, ∀ p o, d.a = some ⟨p, o, none⟩ → p ∉ M ∧ p ∉ N
  nt : ∀ q ∈ N, q < u.heap.size
  lt : ∀ d ∈ us, ∀ p o, d.a = some ⟨p, o, none⟩ → p < u.heap.size ∧ (∀ q, v.ownBlock = some q → p ≠ q)
  bm : b ∈ M
  lm : ∀ q, vl.ownBlock = some q → q ∈ M
  ty : ∀ p ∈ M, p < u.heap.size ∧ ∃ cs T, u.heap[p]? = some (.cells cs T (0, 0)) ∧ (T = 99 ∨ T = 110 ∨ T = 61)
section
variable {b : Nat} {M N : List Nat} {x : Bk} {vl vb : Value} {us : List Lv} {rp : Nat} {ra : Option Addr} {rn rc : Nat} {rw : Bool} {r : Ro} {w1 u u' : World} {v : Value}
theorem A0.below (h : A0 b M N x vl vb us rp ra rn rc rw r w1 u) (hb : Below u.heap.size u u') : A0 b M N x vl vb us rp ra rn rc rw r w1 u' :=
  ⟨h.bo.moved hb.size (fun p hp => hb.block p (h.bo.ty p hp).1) (fun d _ b o _ hl => hb.block b hl), h.keep.trans (KeepB.of_below hb), h.ro.belowAll hb, h.cels.belowAll hb⟩
theorem A0.grows {l : List (Int × Int)} (h : A0 b M N x vl vb us rp ra rn rc rw r w1 u) (hg : GrewQ .i32 61 0 vb l u v u') : KeepB M u u' :=
  (keepB_of hg.grown).mono (fun p hp => h.bo.qm p (by simpa using hp))
theorem A0.appended (h : A0 b M N x vl vb us rp ra rn rc rw r w1 u) (hg : GrewQ .i32 61 0 vb (x.G ++ glyphs r) u v u') : A1 b M N x vl vb us r w1 v u' := by
  have k3 := hg.grown
  have hs := k3.size
  have hne : ∀ {p : Nat} {cs : Array Value} {T : TypeId}, u.heap[p]? = some (.cells cs T (0, 0)) → T ≠ 61 → u'.heap[p]? = u.heap[p]? := fun {p cs T} hp hT => k3.block p (Array.getElem?_eq_some_iff.1 hp).1 (fun e => by
    obtain ⟨-, -, cs', h2⟩ := h.bo.q.own p e.symm
    rw [hp] at h2
    injection h2 with h2
    injection h2 with h2 h3
    exact hT h3)
  have hnm : ∀ {p : Nat}, p < u.heap.size → p ∉ M → u'.heap[p]? = u.heap[p]? := fun {p} hp hm => k3.block p hp (fun e => hm (h.bo.qm p e.symm))
  refine ⟨(hne h.bo.bb (by decide)).trans h.bo.bb, h.bo.own.moved (fun q hq => ?_), hg.own, h.bo.lv.moved hs (fun d hd p o e hl => hnm hl (h.bo.off d hd p o e).1), h.keep.trans (h.grows hg), fun q hq => ?_, h.bo.off, (fun q hq => Nat.lt_of_lt_of_le (h.bo.nt q hq) hs), fun d hd p o e => ⟨Nat.lt_of_lt_of_le (h.bo.lt d hd p o e) hs, fun q hq e2 => ?_⟩, h.bo.bm, h.bo.lm, fun p hp => ?_⟩
  · obtain ⟨-, -, cs, h2⟩ := h.bo.own.own q hq
    exact hne h2 (by decide)
  · rcases hg.block q hq with e | e
    · exact .inl (h.bo.qm q e)
    · exact .inr (Nat.le_trans h.keep.size e)
  · subst e2
    rcases hg.block p hq with e3 | e3
    · exact (h.bo.off d hd p o e).1 (h.bo.qm p e3)
    · have := h.bo.lt d hd p o e
      omega
  · obtain ⟨h1, cs, T, h2, h3⟩ := h.bo.ty p hp
    refine ⟨Nat.lt_of_lt_of_le h1 hs, ?_⟩
    by_cases e : vb.ownBlock = some p
    · obtain ⟨cs', h4⟩ := hg.ty p e
      exact ⟨cs', _, h4, .inr (.inr rfl)⟩
    · exact ⟨cs, T, (k3.block p h1 (fun e2 => e e2.symm)).trans h2, h3⟩
theorem A1.keepSet (h : A1 b M N x vl vb us r w1 v u) : KeepB M u (u.setCell ⟨b, 1, none⟩ v) := (KeepB.setCell v).mono (fun p hp => by rw [show p = b by simpa using hp]; exact h.bm)
theorem A1.stored (h : A1 b M N x vl vb us r w1 v u) : ∃ M', BoAt b M' N ⟨x.L, x.G ++ glyphs r⟩ vl v us (u.setCell ⟨b, 1, none⟩ v) ∧ KeepB M w1 (u.setCell ⟨b, 1, none⟩ v) ∧ ∀ p ∈ M', p ∈ M ∨ w1.heap.size ≤ p := by
  have hk := h.keepSet
  have hs := hk.size
  have hb1 : KeepB [b] u (u.setCell ⟨b, 1, none⟩ v) := KeepB.setCell v
  have hbb : (u.setCell ⟨b, 1, none⟩ v).heap[b]? = some (.cells #[vl, v] 99 (0, 0)) := by simp [World.setCell, Array.getElem?_modify, h.bb]
  have hne : ∀ {p : Nat} {cs : Array Value} {T : TypeId}, u.heap[p]? = some (.cells cs T (0, 0)) → T ≠ 99 → (u.setCell ⟨b, 1, none⟩ v).heap[p]? = u.heap[p]? := fun {p cs T} hp hT => hb1.block p (Array.getElem?_eq_some_iff.1 hp).1 (fun e => by
    rw [show p = b by simpa using e, h.bb] at hp
    injection hp with hp
    injection hp with hp h3
    exact hT h3.symm)
  have hnm : ∀ {p : Nat}, p < u.heap.size → p ∉ M → (u.setCell ⟨b, 1, none⟩ v).heap[p]? = u.heap[p]? := fun {p} hp hm => hk.block p hp hm
  refine ⟨M ++ v.ownBlock.toList, ⟨hbb, h.own.moved (fun q hq => ?_), h.q.moved (fun q hq => ?_), h.lv.moved hs (fun d hd p o e hl => hnm hl (h.off d hd p o e).1), fun d hd p o e => ⟨fun hm => ?_, (h.off d hd p o e).2⟩, (fun q hq => Nat.lt_of_lt_of_le (h.nt q hq) hs), fun d hd p o e => Nat.lt_of_lt_of_le (h.lt d hd p o e).1 hs, List.mem_append_left _ h.bm, fun q hq => List.mem_append_left _ (h.lm q hq), fun q hq => List.mem_append_right _ (by rw [hq]; simp), fun p hp => ?_⟩, h.keep.trans hk, fun p hp => ?_⟩
  · obtain ⟨-, -, cs, h2⟩ := h.own.own q hq
    exact hne h2 (by decide)
  · obtain ⟨-, -, cs, h2⟩ := h.q.own q hq
    exact hne h2 (by decide)
  · rcases List.mem_append.1 hm with hm | hm
    · exact (h.off d hd p o e).1 hm
    · exact (h.lt d hd p o e).2 p (by simpa using hm) rfl
  · rcases List.mem_append.1 hp with hp | hp
    · obtain ⟨h1, cs, T, h2, h3⟩ := h.ty p hp
      refine ⟨Nat.lt_of_lt_of_le h1 hs, ?_⟩
      by_cases e : p = b
      · subst e
        exact ⟨_, _, hbb, .inl rfl⟩
      · exact ⟨cs, T, (hb1.block p h1 (by simpa using e)).trans h2, h3⟩
    · obtain ⟨-, h1, cs, h2⟩ := h.q.own p (by simpa using hp)
      exact ⟨Nat.lt_of_lt_of_le h1 hs, cs, _, (hne h2 (by decide)).trans h2, .inr (.inr rfl)⟩
  · rcases List.mem_append.1 hp with hp | hp
    · exact .inl hp
    · exact h.blk p (by simpa using hp)
end
/-- the region's state -/
def AddS (b : Nat) (M N : List Nat) (x : Bk) (vl vb : Value) (us : List Lv) (rp : Nat) (ra : Option Addr) (rn rc : Nat) (rw : Bool) (r : Ro) (w1 : World) : Nat → (Nat → Value) → World → Prop
  | 0, _, u => A0 b M N x vl vb us rp ra rn rc rw r w1 u
  | 1, f, u => A0 b M N x vl vb us rp ra rn rc rw r w1 u ∧ ∃ a2 n2 c2, f 22 = .slice a2 n2 c2 ∧ PairsIn .i32 a2 n2 c2 (glyphs r) u
  | 2, f, u => ∃ v, f 23 = v ∧ A1 b M N x vl vb us r w1 v u
  | _, _, u => ∃ M' v, BoAt b M' N ⟨x.L, x.G ++ glyphs r⟩ vl v us u ∧ KeepB M w1 u ∧ ∀ p ∈ M', p ∈ M ∨ w1.heap.size ≤ p
section
variable {b : Nat} {M N : List Nat} {x : Bk} {vl vb : Value} {us : List Lv} {rp : Nat} {ra : Option Addr} {rn rc : Nat} {rw : Bool} {r : Ro} {w1 u : World} {k : Nat} {f f2 : Nat → Value}
theorem AddS.base (hk : k ≤ 1) (h : AddS b M N x vl vb us rp ra rn rc rw r w1 k f u) : A0 b M N x vl vb us rp ra rn rc rw r w1 u := by
  match k, hk, h with
  | 0, _, h => exact h
  | 1, _, h => exact h.1
theorem AddS.cong (e1 : k = 1 → f 22 = f2 22) (e2 : k = 2 → f 23 = f2 23) (h : AddS b M N x vl vb us rp ra rn rc rw r w1 k f u) : AddS b M N x vl vb us rp ra rn rc rw r w1 k f2 u := by
  match k, h, e1, e2 with
  | 0, h, _, _ => exact h
  | 1, ⟨h, a, n, c, e, h2⟩, e1, _ => exact ⟨h, a, n, c, by rw [← e1 rfl]; exact e, h2⟩
  | 2, ⟨v, e, h⟩, _, e2 => exact ⟨v, by rw [← e2 rfl]; exact e, h⟩
  | _ + 3, h, _, _ => exact h
end
def AddOk (b : Nat) (ga : Option Addr) (gn gc : Nat) (ra : Option Addr) (rn rc : Nat) (rw : Bool) : Nat → Value → World → Prop
  | 0, u, _ => u = .pointer (some ⟨b, 0, none⟩)
  | 1, u, _ => u = .pointer (some ⟨b, 0, none⟩)
  | 2, u, _ => u = .pointer (some ⟨b, 0, none⟩)
  | 3, u, _ => u = .pointer (some ⟨b, 1, none⟩)
  | 4, u, _ => u = .slice ga gn gc
  | 5, u, _ => u = .agg #[.slice ra rn rc, .bool rw]
  | 6, _, _ => True
  | 7, _, _ => True
  | 8, u, _ => u = .pointer (some ⟨b, 0, none⟩)
  | 9, u, _ => u = .pointer (some ⟨b, 1, none⟩)
  | 10, _, _ => True
  | _, _, _ => True
/-- how much is begun -/
def begLen (b : Nat) (w : World) : Nat := match w.cell? ⟨b, 1, none⟩ with
  | some (.slice _ n _) => n
  | _ => 0
theorem Bo.begLen {b : Nat} {M N : List Nat} {x : Bk} {w : World} (h : Bo b M N x w) : begLen b w = x.G.length := by
  obtain ⟨vl, vb, us, h⟩ := h
  obtain ⟨a, c, rfl, -⟩ := h.q.shape
  unfold K.begLen
  rw [h.c1]
theorem Bo.notRow {b : Nat} {M N : List Nat} {x : Bk} {w : World} (h : Bo b M N x w) {p : Nat} {cs : Array Value} (hp : w.heap[p]? = some (.cells cs 27 (0, 0))) : p ∉ M := fun hm => by
  obtain ⟨vl, vb, us, h⟩ := h
  obtain ⟨h1, cs, T, h2, h3⟩ := h.ty p hm
  rw [hp] at h2
  injection h2 with h2
  injection h2 with h2 h4
  rcases h3 with h3 | h3 | h3 <;> (rw [h3] at h4; exact absurd h4 (by decide))
theorem S.halfLt {w : World} (h : S.Tab w) : 1 < w.heap.size := World.block_lt_of_cell? w _ (h 0 (by decide))
set_option maxRecDepth 100000 in
set_option maxHeartbeats 16000000 in
theorem badd_any {b : Nat} {M N : List Nat} {x : Bk} (a : Option Addr) (n c : Nat) (rs : List Ro) (w : World) (h : Bo b M N x w) (hok : BkOk x) (hgr : RngG x.G) (hR : RowsL .i32 M a n c rs w) (hrg : ∀ r ∈ rs, AllC Rng r.l) (hlen : ∀ r ∈ rs, r.l.length ≤ 1024) (hL : x.L.length + 2 * rs.length ≤ 800000) (hn : rs.length ≤ 1000) (hT : S.Tab w) (hM : 1 ∉ M) :
    Calls Tryd.prog 14 #[.pointer (some ⟨b, 0, none⟩), .slice a n c] w fun e w' => e = .returned (.int .i64 (((addsB x rs).L.length : Int) - x.L.length)) ∧ ∃ M', Bo b M' N (addsB x rs) w' ∧ KeepB M w w' ∧ ∀ p ∈ M', p ∈ M ∨ w.heap.size ≤ p := by
  have hnl := hR.len
  have HLn := Lib.hid (blen_any w h)
  obtain ⟨P, hPP⟩ : ∃ P : Ending → World → Prop, (fun e w' => e = .returned (.int .i64 (((addsB x rs).L.length : Int) - x.L.length)) ∧ ∃ M', Bo b M' N (addsB x rs) w' ∧ KeepB M w w' ∧ ∀ p ∈ M', p ∈ M ∨ w.heap.size ≤ p) = P := ⟨_, rfl⟩
  rw [hPP]
  have HP := Lib.hid hPP
  have HBo := Lib.hid h
  have HOk := Lib.hid hok
  have HGr := Lib.hid hgr
  have HR := Lib.hid hR
  have HRg := Lib.hid hrg
  have HLe := Lib.hid hlen
  have HT := Lib.hid hT
  have HMt := Lib.hid hM
  have HNl := Lib.hid hnl
  obtain ⟨l0, hl0⟩ : ∃ l, x.L.length = l := ⟨_, rfl⟩
  have HL0 := Lib.hid hl0
  have HL : Hid (l0 + 2 * rs.length ≤ 800000) := Lib.hid (by rw [← hl0]; exact hL)
  have hnI : (n : Int) ≤ 1000 := by rw [hnl]; omega
  clear hPP h hok hgr hR hrg hlen hT hM hnl hl0 hL hn
  go_enter Tryd.func14, Tryd.ntmps14
  go_wp2_with fail
  refine HLn.out.mono ?_
  rintro e w0 ⟨rfl, rfl⟩
  rw [HL0.out]
  go_wp2_with fail
  go_loopw [12] (fun i wr => ∃ j : Nat, i = .int .i64 (j : Int) ∧ j ≤ n ∧ Hid (∃ M', Bo b M' N (addsB x (rs.take j)) wr ∧ KeepB M w wr ∧ ∀ p ∈ M', p ∈ M ∨ w.heap.size ≤ p)) (fun i _ => n - (intOf i).toNat)
  case atStart => exact ⟨0, rfl, Nat.zero_le _, Lib.hid ⟨M, HBo.out, KeepB.refl _ _, fun p hp => .inl hp⟩⟩
  case round =>
    obtain ⟨j, rfl, hj, HF⟩ := hrel
    by_cases hlt : j < n
    · have hd : decide (j < n) = true := decide_eq_true hlt
      have hjI : (j : Int) < n := by omega
      have hjl : j < rs.length := by rw [← HNl.out]; exact hlt
      obtain ⟨us0, hin, hrv, hof⟩ := HR.out.ex
      have hju : j < us0.length := by rw [hrv.1]; exact hjl
      obtain ⟨bb, bo, rfl, hbl, hAt⟩ := hin.at_.resolve_left (by intro e; rw [e] at hju; simp at hju)
      have hat := hAt j us0[j] (List.getElem?_eq_getElem hju)
      have hrj := hrv.2 j us0[j] rs[j] (List.getElem?_eq_getElem hju) (List.getElem?_eq_getElem hjl)
      have hoj := hof us0[j] (List.getElem_mem hju)
      have hgj := HRg.out rs[j] (List.getElem_mem hjl)
      have hlj := HLe.out rs[j] (List.getElem_mem hjl)
      have hbm : bb ∉ M := HR.out.off (by omega) bb bo rfl
      have hsn := addsB_snoc x rs j hjl
      obtain ⟨⟨ra, rn, rc, rw0⟩, hu⟩ : ∃ u, us0[j] = u := ⟨_, rfl⟩
      obtain ⟨r, hre⟩ : ∃ r, rs[j] = r := ⟨_, rfl⟩
      rw [hu] at hat hrj hoj
      rw [hre] at hrj hgj hlj hsn
      obtain ⟨y, hy⟩ : ∃ y, addsB x (rs.take j) = y := ⟨_, rfl⟩
      have hyok : BkOk y := by rw [← hy]; exact addsB_ok HOk.out _
      have hyg : RngG y.G := by rw [← hy]; exact addsB_rng HGr.out (fun q hq => HRg.out q (List.mem_of_mem_take hq))
      have hyl : y.L.length ≤ 800000 := by
        have h1 := addsB_count HOk.out (rs.take j) (fun q hq => HLe.out q (List.mem_of_mem_take hq))
        have h2 := HL.out
        rw [hy, HL0.out, List.length_take] at h1
        omega
      rw [hy] at hsn HF
      obtain ⟨M1, hBo1, hk1, hm1⟩ := HF.out
      obtain ⟨vl, vb, us, hb1⟩ := hBo1
      have hbw : wr.heap[bb]? = w.heap[bb]? := hk1.block bb hbl hbm
      have k0 : wr.cell? ⟨bb, bo + j * 2, none⟩ = some (.slice ra rn rc) := (World.cell?_of_block (a := ⟨bb, bo + j * 2, none⟩) hbw).trans hat.1
      have k1 : wr.cell? ⟨bb, bo + j * 2 + 1, none⟩ = some (.bool rw0) := (World.cell?_of_block (a := ⟨bb, bo + j * 2 + 1, none⟩) hbw).trans hat.2
      have hrw : RowV .i32 (Rv.val ⟨ra, rn, rc, rw0⟩) r wr := hrj.keptB hoj hk1
      unfold Rv.val at hrw
      simp only at hrw
      have HRw : Hid (rw0 = r.wrapped) := Lib.hid hrw.of.1
      obtain ⟨rp, hrp⟩ : ∃ p, wr.heap.size = p := ⟨_, rfl⟩
      obtain ⟨w5, hw5⟩ : ∃ w5, wr.alloc (.cells #[.slice ra rn rc, .bool rw0] 27) = w5 := ⟨_, rfl⟩
      have hb5 : Below wr.heap.size wr w5 := by rw [← hw5]; exact (Below.refl _ _).alloc (Nat.le_refl _) _
      have hro : RoB 27 rp (.slice ra rn rc) rw0 w5 := by rw [← hw5, ← hrp]; exact RoB.new _ _ _ _
      obtain ⟨ga, gc, rfl, -⟩ := hb1.q.shape
      obtain ⟨gn, hgn⟩ : ∃ g, y.G.length = g := ⟨_, rfl⟩
      rw [hgn] at hb1
      have h0 : A0 b M1 N y vl (.slice ga gn gc) us rp ra rn rc rw0 r w5 w5 := ⟨hb1.moved hb5.size (fun p hp => hb5.block p (hb1.ty p hp).1) (fun d _ b o _ hl => hb5.block b hl), KeepB.refl _ _, hro, hrw.belowAll hb5⟩
      have HRl : Hid (r.l.length ≤ 1024) := Lib.hid hlj
      have HGm : Hid ((y.G.length : Int) ≤ 1000000) := Lib.hid (by have := hyok.g; omega)
      have HGr2 : Hid (((glyphs r).length : Int) ≤ 1000000) := Lib.hid (by have := glyphs_len r; omega)
      have HA0 := Lib.hid h0
      have HK5 : Hid (KeepB M w w5) := Lib.hid (hk1.trans (KeepB.of_below hb5))
      have HM1 := Lib.hid hm1
      have HSn := Lib.hid hsn
      have HYok := Lib.hid hyok
      have HYg := Lib.hid hyg
      have HYl := Lib.hid hyl
      have HRgr := Lib.hid hgj
      have HRp := Lib.hid hrp
      have HW5 := Lib.hid hw5
      clear hjl hin hrv hof hju hAt hat hrj hoj hgj hlj hbm hsn hu hre hy hyok hyg hyl hk1 hm1 hb1 hbw hrw hrp hw5 hb5 hro hgn h0 HF hbl
      go_upto_region 5 with fail
      rw [HW5.out, HRp.out]
      clear k0 k1
      refine Go.Proofs.YtkggmcnocpgnbaaDoor.R.wp_region_due [6, 7, 10] [2, 1, 1, 1, 1, 0, 1, 2, 2, 2, 3] (by kernel_rfl) (AddS b M1 N y vl (.slice ga gn gc) us rp ra rn rc rw0 r w5) (fun u u2 => KeepB M1 u u2) (AddOk b ga gn gc ra rn rc rw0) (by rfl) (by kernel_rfl) (by kernel_rfl) (by kernel_rfl) (by kernel_rfl) ?hcong ?hOk ?hop ?hdone ?h0
      case hcong => exact fun k f f2 u hs hst => AddS.cong (fun hk => hs 22 (Go.Proofs.YtkggmcnocpgnbaaDoor.R.mem_slots (by subst hk; kernel_rfl))) (fun hk => hs 23 (Go.Proofs.YtkggmcnocpgnbaaDoor.R.mem_slots (by subst hk; kernel_rfl))) hst
      case hOk => intro i u w1 w2 h hr; unfold AddOk at h ⊢; split <;> first | exact True.intro | exact h
      case h0 => exact HA0.out.below ((Below.refl _ _).drew)
      case hop =>
        refine ⟨?_, ?_, ?_, ?_, ?_, ?_, ?_, ?_, ?_, ?_, ?_, trivial⟩
        · intro k z v hk hst hag hdep
          refine .inl ⟨rfl, fun K hK => ?_⟩
          have d0 : z.tmps.getD 0 undef = .pointer (some ⟨b, 0, none⟩) := hag.2.2 0 (by kernel_rfl)
          have e0 := d0
          rw [Array.getD_eq_getD_getElem?] at e0
          have HSt := Lib.hid hst
          clear hdep hag hst
          go_simp
          exact hK _ _ (KeepB.refl _ _) rfl HSt.out
        · intro k z v hk hst hag hdep
          refine .inl ⟨rfl, fun K hK => ?_⟩
          have d0 : z.tmps.getD 0 undef = .pointer (some ⟨b, 0, none⟩) := hag.2.2 0 (by kernel_rfl)
          have e0 := d0
          rw [Array.getD_eq_getD_getElem?] at e0
          have HSt := Lib.hid hst
          clear hdep hag hst
          go_simp
          exact hK _ _ (KeepB.refl _ _) rfl HSt.out
        · intro k z v hk hst hag hdep
          refine .inl ⟨rfl, fun K hK => ?_⟩
          have d17 : z.tmps.getD 17 undef = .pointer (some ⟨b, 0, none⟩) := hdep { on := 1, ground := .data } (by simp) rfl _ _ rfl rfl
          have e17 := d17
          rw [Array.getD_eq_getD_getElem?] at e17
          have HSt := Lib.hid hst
          clear hdep hag hst
          go_simp
          exact hK _ _ (KeepB.refl _ _) rfl HSt.out
        · intro k z v hk hst hag hdep
          refine .inl ⟨rfl, fun K hK => ?_⟩
          have d18 : z.tmps.getD 18 undef = .pointer (some ⟨b, 0, none⟩) := hdep { on := 2, ground := .data } (by simp) rfl _ _ rfl rfl
          have e18 := d18
          rw [Array.getD_eq_getD_getElem?] at e18
          have HSt := Lib.hid hst
          clear hdep hag hst
          go_simp
          exact hK _ _ (KeepB.refl _ _) rfl HSt.out
        · intro k z v hk hst hag hdep
          refine .inl ⟨rfl, fun K hK => ?_⟩
          have d19 : z.tmps.getD 19 undef = .pointer (some ⟨b, 1, none⟩) := hdep { on := 3, ground := .data } (by simp) rfl _ _ rfl rfl
          have e19 := d19
          rw [Array.getD_eq_getD_getElem?] at e19
          have h0 := AddS.base (by have : k ≤ 1 := hk; omega) hst
          have l0 := h0.bo.c1
          have HSt := Lib.hid hst
          clear hdep hag hst
          go_simp
          exact hK _ _ (KeepB.refl _ _) rfl HSt.out
        · intro k z v hk hst hag hdep
          refine .inl ⟨rfl, fun K hK => ?_⟩
          have d7 : z.tmps.getD 7 undef = .pointer (some ⟨rp, 0, none⟩) := hag.2.2 7 (by kernel_rfl)
          have e7 := d7
          rw [Array.getD_eq_getD_getElem?] at e7
          obtain rfl : k = 0 := by have : k ≤ 0 := hk; omega
          have h0 : A0 b M1 N y vl (.slice ga gn gc) us rp ra rn rc rw0 r w5 v := hst
          have l0 := h0.ro.c0
          have l1 := h0.ro.c1
          have HSt := Lib.hid hst
          clear hdep hag hst
          go_simp
          exact hK _ _ (KeepB.refl _ _) rfl HSt.out
        · intro z v hst hag hdep
          refine ⟨rfl, fun K hK => ?_⟩
          have d21 : z.tmps.getD 21 undef = .agg #[.slice ra rn rc, .bool rw0] := hdep { on := 5, ground := .data } (by simp) rfl _ _ rfl rfl
          have e21 := d21
          rw [Array.getD_eq_getD_getElem?] at e21
          have h0 : A0 b M1 N y vl (.slice ga gn gc) us rp ra rn rc rw0 r w5 v := hst
          have HG6 := Lib.hid (rowGlyphs_any h0.cels (by have := HRl.out; omega))
          have hsz : 22 < z.tmps.size := by rw [hag.2.1]; show 22 < 49; decide
          have HSt := Lib.hid h0
          clear hdep hag h0 hst
          go_simp
          refine HG6.out.mono ?_
          rintro e w' ⟨a2, n2, c2, rfl, hp2, hb⟩
          exact hK _ _ (KeepB.of_below hb) True.intro ⟨HSt.out.below hb, a2, n2, c2, Go.Proofs.YtkggmcnocpgnbaaDoor.R.slot_same hsz, hp2⟩
        · intro z v hst hag hdep
          refine ⟨rfl, fun K hK => ?_⟩
          have d20 : z.tmps.getD 20 undef = .slice ga gn gc := hdep { on := 4, ground := .data } (by simp) rfl _ _ rfl rfl
          have e20 := d20
          rw [Array.getD_eq_getD_getElem?] at e20
          obtain ⟨h0, a2, n2, c2, f22, hp2⟩ := hst
          have d22 : z.tmps.getD 22 undef = .slice a2 n2 c2 := f22
          have hsz : 23 < z.tmps.size := by rw [hag.2.1]; show 23 < 49; decide
          have HSt := Lib.hid h0
          clear hdep hag e20
          refine wp_append_q gluT _ _ rfl rfl 0 (.slice ga gn gc) y.G a2 n2 c2 (glyphs r) d20 d22 HSt.out.bo.q hp2 HGm.out HGr2.out (Nat.zero_le _) ?_
          intro v' w' k1
          exact hK _ _ (HSt.out.grows k1) True.intro ⟨v', Go.Proofs.YtkggmcnocpgnbaaDoor.R.slot_same hsz, HSt.out.appended k1⟩
        · intro k z v hk hst hag hdep
          refine .inl ⟨rfl, fun K hK => ?_⟩
          have d16 : z.tmps.getD 16 undef = .pointer (some ⟨b, 0, none⟩) := hdep { on := 0, ground := .data } (by simp) rfl _ _ rfl rfl
          have e16 := d16
          rw [Array.getD_eq_getD_getElem?] at e16
          have HSt := Lib.hid hst
          clear hdep hag hst
          go_simp
          exact hK _ _ (KeepB.refl _ _) rfl HSt.out
        · intro k z v hk hst hag hdep
          refine .inl ⟨rfl, fun K hK => ?_⟩
          have d24 : z.tmps.getD 24 undef = .pointer (some ⟨b, 0, none⟩) := hdep { on := 8, ground := .data } (by simp) rfl _ _ rfl rfl
          have e24 := d24
          rw [Array.getD_eq_getD_getElem?] at e24
          have HSt := Lib.hid hst
          clear hdep hag hst
          go_simp
          exact hK _ _ (KeepB.refl _ _) rfl HSt.out
        · intro z v hst hag hdep
          refine ⟨rfl, fun K hK => ?_⟩
          have d25 : z.tmps.getD 25 undef = .pointer (some ⟨b, 1, none⟩) := hdep { on := 9, ground := .data } (by simp) rfl _ _ rfl rfl
          have e25 := d25
          rw [Array.getD_eq_getD_getElem?] at e25
          obtain ⟨v7, f7, h7⟩ := hst
          have d23 : z.tmps.getD 23 undef = v7 := f7
          obtain ⟨sa, sc, hsv, -⟩ := h7.q.shape
          obtain ⟨sn, hsn⟩ : ∃ n, (y.G ++ glyphs r).length = n := ⟨_, rfl⟩
          rw [hsn] at hsv
          rw [hsv] at d23 h7
          have e23 := d23
          rw [Array.getD_eq_getD_getElem?] at e23
          have s0 := cell_block h7.bb 1
          have f0 := frozen_block h7.bb 1
          have HSt := Lib.hid h7
          clear hdep hag h7 f7 hsv hsn
          go_simp
          obtain ⟨M9, k7, k8, k9⟩ := HSt.out.stored
          exact hK undef _ (HSt.out.keepSet) trivial ⟨M9, _, k7, k8, k9⟩
      case hdone =>
        intro z v hst hag hok
        have hst2 : ∃ M' v2, BoAt b M' N ⟨y.L, y.G ++ glyphs r⟩ vl v2 us v ∧ KeepB M1 w5 v ∧ ∀ p ∈ M', p ∈ M1 ∨ w5.heap.size ≤ p := hst
        obtain ⟨M2, v2, hb2, hk2, hm2⟩ := hst2
        have hB2 : Hid (Bo b M2 N ⟨y.L, y.G ++ glyphs r⟩ v) := Lib.hid ⟨vl, v2, us, hb2⟩
        have HK2 : Hid (KeepB M w v) := Lib.hid (HK5.out.join hk2 HM1.out)
        have HM2 : Hid (∀ p ∈ M2, p ∈ M ∨ w.heap.size ≤ p) := Lib.hid (fun p hp => by
          rcases hm2 p hp with h1 | h1
          · exact HM1.out p h1
          · exact .inr (Nat.le_trans HK5.out.size h1))
        have HRo : Hid (RoB 27 rp (.slice ra rn rc) rw0 v) := Lib.hid (hk2.block1 HA0.out.ro (fun hm => by
          obtain ⟨h1, cs, T, h2, h3⟩ := HA0.out.bo.ty rp hm
          rw [show w5.heap[rp]? = _ from HA0.out.ro] at h2
          injection h2 with h2
          injection h2 with h2 h4
          rcases h3 with h3 | h3 | h3 <;> (rw [h3] at h4; exact absurd h4 (by decide))))
        clear hst hb2 hk2 hm2
        obtain ⟨uu, hu, hzz⟩ := Go.Proofs.YtkggmcnocpgnbaaDoor.R.agree_frame [16, 17, 18, 19, 20, 21, 22, 23, 24, 25] rfl hag

        subst hzz
        simp only [List.foldl_cons, List.foldl_nil]
        rw []
        clear  hu hag hok
        try dsimp only [Exit.then]
        simp only [List.setIfInBounds_toArray, List.set_cons_succ, List.set_cons_zero]
        generalize uu 16 = u16', uu 17 = u17', uu 18 = u18', uu 19 = u19', uu 20 = u20', uu 21 = u21', uu 22 = u22', uu 23 = u23', uu 24 = u24', uu 25 = u25'
        clear uu
        rename_i K hK
        refine hK _ _ ?_
        clear HA0 HK5 HM1 HW5
        obtain ⟨v9, hv9⟩ : ∃ v9, v9 = v := ⟨_, rfl⟩
        subst hv9
        go_wp2_with fail
        go_loopw [] (fun wv => Hid (∃ M3 y3, Bo b M3 N y3 wv ∧ cutB y3 = cutB ⟨y.L, y.G ++ glyphs r⟩ ∧ RngG y3.G ∧ y3.G.length ≤ 3000 ∧ y3.L.length + y3.G.length ≤ 803100 ∧ KeepB M2 v9 wv ∧ ∀ p ∈ M3, p ∈ M2 ∨ v9.heap.size ≤ p)) (fun wv => begLen b wv)
        case atStart =>
          exact Lib.hid ⟨M2, _, hB2.out, rfl, rngG_append HYg.out (rngG_glyphs HRgr.out), by
            have h1 := HYok.out.g
            have h2 := glyphs_len r
            have h3 := HRl.out
            show (y.G ++ glyphs r).length ≤ 3000
            rw [List.length_append]
            omega, by
            have h1 := HYok.out.g
            have h2 := glyphs_len r
            have h3 := HRl.out
            have h4 := HYl.out
            show y.L.length + (y.G ++ glyphs r).length ≤ 803100
            rw [List.length_append]
            omega, KeepB.refl _ _, fun p hp => .inl hp⟩
        case round =>
          obtain ⟨M3, y3, hB3, hcut, hg3, hl3, hs3, hk3, hm3⟩ := hrel.out
          have hsub : ∀ p ∈ M3, p ∈ M ∨ w.heap.size ≤ p := fun p hp => by
            rcases hm3 p hp with h1 | h1
            · exact HM2.out p h1
            · exact .inr (Nat.le_trans HK2.out.size h1)
          have hkw : KeepB M w wr := HK2.out.join hk3 HM2.out
          have hhalf : 1 ∉ M3 := fun hm => by
            rcases hsub _ hm with h1 | h1
            · exact HMt.out h1
            · have := S.halfLt HT.out
              omega
          have htab := S.tabKeep HT.out HMt.out hkw
          obtain ⟨g3, hgn⟩ : ∃ n, y3.G.length = n := ⟨_, rfl⟩
          obtain ⟨ga3, gc3, hc1⟩ : ∃ a c, wr.cell? ⟨b, 1, none⟩ = some (.slice a g3 c) := by
            obtain ⟨vl3, vb3, us3, hb3⟩ := hB3
            obtain ⟨a, c, e, -⟩ := hb3.q.shape
            rw [← hgn]
            exact ⟨a, c, by rw [← e]; exact hb3.c1⟩
          have HSub := Lib.hid hsub
          have HKw := Lib.hid hkw
          have HB3 := Lib.hid hB3
          have HCut := Lib.hid hcut
          have HG3 := Lib.hid hg3
          have HL3 : Hid (y3.G.length ≤ 3000 ∧ y3.L.length + y3.G.length ≤ 803100) := Lib.hid ⟨hl3, hs3⟩
          have HK3 := Lib.hid hk3
          have HM3 := Lib.hid hm3
          have HGn := Lib.hid hgn
          by_cases h1024 : 1024 ≤ g3
          · have hd1 : decide ((g3 : Int) ≥ 1024) = true := decide_eq_true (by omega)
            have hd2 : decide (1024 ≤ (g3 : Int)) = true := decide_eq_true (by omega)
            have he := bend_any 1024 wr hB3 (by rw [hgn]; exact h1024) (Nat.le_refl _) hg3 (by omega) (by omega) htab hhalf
            rw [show ((1024 : Nat) : Int) = 1024 from rfl] at he
            have HE := Lib.hid he
            have H1024 := Lib.hid h1024
            clear hB3 hcut hg3 hl3 hs3 hk3 hm3 hsub hkw hhalf htab hgn he h1024 hrel
            go_wp2_with fail
            refine HE.out.mono ?_
            rintro e w6 ⟨rfl, M4, hB4, hk4, hm4⟩
            have HN : Hid (∃ M3 y3, Bo b M3 N y3 w6 ∧ cutB y3 = cutB ⟨y.L, y.G ++ glyphs r⟩ ∧ RngG y3.G ∧ y3.G.length ≤ 3000 ∧ y3.L.length + y3.G.length ≤ 803100 ∧ KeepB M2 v9 w6 ∧ ∀ p ∈ M3, p ∈ M2 ∨ v9.heap.size ≤ p) := Lib.hid (by
              have hl := HL3.out
              have hg := HGn.out
              have h4 := H1024.out
              have hlg : (endB y3 1024).G.length = g3 - 1024 := by show (y3.G.drop 1024).length = _; rw [List.length_drop, hg]
              have hll : (endB y3 1024).L.length = y3.L.length + 1 := by show (y3.L ++ [_]).length = _; simp
              refine ⟨M4, endB y3 1024, hB4, ?_, fun g hm => HG3.out g (List.mem_of_mem_drop hm), by omega, by omega, HK3.out.join hk4 HM3.out, fun p hp => ?_⟩
              · rw [← HCut.out, ← cutB_step (by rw [hg]; exact h4)]
              · rcases hm4 p hp with h1 | h1
                · exact HM3.out p h1
                · exact .inr (Nat.le_trans HK3.out.size h1))
            have HMs : Hid (begLen b w6 < begLen b wr) := Lib.hid (by
              rw [hB4.begLen, HB3.out.begLen]
              show (y3.G.drop 1024).length < _
              have hg := HGn.out
              have h4 := H1024.out
              rw [List.length_drop]
              omega)
            clear hB4 hk4 hm4
            go_wp2_with fail
            go_roundw
            case rel => exact HN
            case measure => exact HMs.out
          · have hd1 : decide ((g3 : Int) ≥ 1024) = false := decide_eq_false (by omega)
            have hd2 : decide (1024 ≤ (g3 : Int)) = false := decide_eq_false (by omega)
            have hdone : cutB y3 = y3 := cutB_done (by rw [hgn]; exact h1024)
            have hro : RoB 27 rp (.slice ra rn rc) rw0 wr := hk3.block1 HRo.out (hB2.out.notRow HRo.out)
            have r1 := hro.c1
            have HY : Hid (y3 = cutB ⟨y.L, y.G ++ glyphs r⟩) := Lib.hid (by rw [← hcut, hdone])
            have hsz : g3 ≤ 1023 := by omega
            cases rw0 with
            | true =>
              have HN : Hid (∃ M', Bo b M' N (addsB x (rs.take (j + 1))) wr ∧ KeepB M w wr ∧ ∀ p ∈ M', p ∈ M ∨ w.heap.size ≤ p) := Lib.hid (by
                refine ⟨M3, ?_, hkw, hsub⟩
                rw [HSn.out]
                unfold addB
                rw [if_pos HRw.out.symm, ← HY.out]
                exact hB3)
              clear hB3 hcut hg3 hl3 hs3 hk3 hm3 hsub hkw hhalf htab hgn h1024 hrel hdone hro hsz
              go_wp2_with fail
              go_roundw
              case rel => exact ⟨j + 1, by go_num, by omega, HN⟩
              case measure => simp [intOf]; omega
            | false =>
              have he := bend_any g3 wr hB3 (by rw [hgn]; exact Nat.le_refl _) (by omega) hg3 (by omega) (by omega) htab hhalf
              have HE := Lib.hid he
              clear hB3 hcut hg3 hl3 hs3 hk3 hm3 hsub hkw hhalf htab hgn h1024 hrel hdone hro hsz he
              go_wp2_with fail
              refine HE.out.mono ?_
              rintro e w6 ⟨rfl, M4, hB4, hk4, hm4⟩
              have HN : Hid (∃ M', Bo b M' N (addsB x (rs.take (j + 1))) w6 ∧ KeepB M w w6 ∧ ∀ p ∈ M', p ∈ M ∨ w.heap.size ≤ p) := Lib.hid (by
                refine ⟨M4, ?_, HKw.out.join hk4 HSub.out, fun p hp => ?_⟩
                · rw [HSn.out]
                  unfold addB
                  rw [if_neg (by rw [← HRw.out]; decide), ← HY.out, HGn.out]
                  exact hB4
                · rcases hm4 p hp with h1 | h1
                  · exact HSub.out p h1
                  · exact .inr (Nat.le_trans HKw.out.size h1))
              clear hB4 hk4 hm4
              go_wp2_with fail
              go_roundw
              case rel => exact ⟨j + 1, by go_num, by omega, HN⟩
              case measure => simp [intOf]; omega
    · obtain rfl : j = n := by omega
      have hd : decide (j < j) = false := by simp
      obtain ⟨M', hB, hk, hm⟩ := HF.out
      have hta : rs.take j = rs := List.take_of_length_le (by rw [HNl.out]; exact Nat.le_refl _)
      rw [hta] at hB
      have HLe2 := Lib.hid (blen_any wr hB)
      have hend : Hid (P (.returned (.int .i64 (((addsB x rs).L.length : Int) - l0))) wr) := Lib.hid (by rw [← HP.out, ← HL0.out]; exact ⟨rfl, M', hB, hk, hm⟩)
      obtain ⟨l9, hl9⟩ : ∃ l, (addsB x rs).L.length = l := ⟨_, rfl⟩
      have hl8 : (l9 : Int) ≤ 900000 ∧ (l0 : Int) ≤ 900000 := by
        have h1 := addsB_count HOk.out rs HLe.out
        have h2 := HL.out
        rw [HL0.out, hl9] at h1
        omega
      rw [hl9] at HLe2 hend
      have hl7 := hl8.1
      have hl6 := hl8.2
      clear hlt HF hB hk hm hta hl9 hl8
      go_wp2_with fail
      refine HLe2.out.mono ?_
      rintro e w6 ⟨rfl, rfl⟩
      go_wp2_with fail
      exact hend.out
end Go.Proofs.YtkggmcnocpgnbaaDoor.K
