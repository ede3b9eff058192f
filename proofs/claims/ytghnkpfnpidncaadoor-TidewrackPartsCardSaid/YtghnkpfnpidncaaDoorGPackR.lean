/- The drawn region of Gram.Pack: three calls that write one Out, beside loads and two new slices. -/
import Derived.Test.YtghnkpfnpidncaaDoorGOut
import Derived.Test.YtghnkpfnpidncaaDoorIRelIn
import Derived.Test.YtghnkpfnpidncaaDoorSSeal
namespace Go.Proofs.YtghnkpfnpidncaaDoor.G
open Go.RowKit Go.Shelf Go.Proofs.YtghnkpfnpidncaaDoor.I
attribute [local go_sem] Oper.semAt_some

structure PackEnv where
  base : Nat
  B : Nat
  G : Nat
  V : World
  e : Int
  k : Int
  a : Option Addr
  len : Nat
  cap : Nat
  d : ByteArray
  b1 : List UInt8
  b2 : List UInt8
  b3 : List UInt8
def PackEnv.ptr (E : PackEnv) : Value := .pointer (some ⟨E.B, 0, none⟩)
def PackEnv.gp (E : PackEnv) (j : Nat) : Value := .pointer (some ⟨E.G, j, none⟩)
def PackEnv.NewI (E : PackEnv) (u : Value) (w : World) : Prop := ∃ X, u = .slice (some ⟨X, 0, none⟩) 3 3 ∧ X ≠ E.B ∧ w.heap[X]? = some (.cells #[.int .i64 E.e, .int .i64 E.k, .int .i64 (E.len : Int)] 3 (0, 0))
def PackEnv.NewS (E : PackEnv) (u : Value) (w : World) : Prop := ∃ X, u = .slice (some ⟨X, 0, none⟩) 1 1 ∧ X ≠ E.B ∧ w.heap[X]? = some (.cells #[.string E.d] 9 (0, 0))
def PackEnv.Ok (E : PackEnv) : Nat → Value → World → Prop
  | 0, u, _ => u = E.gp 0
  | 1, u, _ => u = .int .i64 E.e
  | 2, u, _ => u = E.gp 1
  | 3, u, _ => u = .int .i64 E.k
  | 4, u, _ => u = E.gp 2
  | 5, u, _ => u = .slice E.a E.len E.cap
  | 6, u, _ => u = .int .i64 (E.len : Int)
  | 7, u, w => E.NewI u w
  | 8, u, _ => u = E.ptr
  | 9, u, _ => u = E.gp 2
  | 10, u, _ => u = .slice E.a E.len E.cap
  | 11, u, _ => u = E.ptr
  | 12, u, _ => u = E.gp 3
  | 13, u, _ => u = .string E.d
  | 14, u, w => E.NewS u w
  | 15, u, _ => u = E.ptr
  | _, _, _ => True
theorem PackEnv.Ok.keeps {E : PackEnv} {j : Nat} {u : Value} {v v' : World} (h : E.Ok j u v) (hk : Keeps E.B v v') : E.Ok j u v' := by
  unfold PackEnv.Ok at h ⊢
  split <;> first | exact True.intro | exact h | skip
  · obtain ⟨X, h1, h2, h3⟩ := h
    exact ⟨X, h1, h2, hk.block X _ h3 h2 (by intro cur fr e; cases e)⟩
  · obtain ⟨X, h1, h2, h3⟩ := h
    exact ⟨X, h1, h2, hk.block X _ h3 h2 (by intro cur fr e; cases e)⟩
/-- What was written so far. -/
def PackEnv.stage (E : PackEnv) (l : Array Bool) : List UInt8 := if l.getD 15 false = true then E.b3 else if l.getD 11 false = true then E.b2 else if l.getD 8 false = true then E.b1 else []
structure PackEnv.C (E : PackEnv) (l : Array Bool) (w : World) : Prop where
  i11 : l.getD 11 false = true → l.getD 8 false = true
  i15 : l.getD 15 false = true → l.getD 11 false = true
  below : Below E.base E.V w
  keeps : Keeps E.B E.V w
  out : OutAt E.base E.B (E.stage l) w
theorem PackEnv.C.same {E : PackEnv} {l : Array Bool} {w : World} (h : E.C l w) {i : Nat} (h8 : i ≠ 8) (h11 : i ≠ 11) (h15 : i ≠ 15) : E.C (l.setIfInBounds i true) w := by
  refine ⟨?_, ?_, h.below, h.keeps, ?_⟩
  · rw [Go.Proofs.YtghnkpfnpidncaaDoor.I.getD_set_ne h11, Go.Proofs.YtghnkpfnpidncaaDoor.I.getD_set_ne h8]; exact h.i11
  · rw [Go.Proofs.YtghnkpfnpidncaaDoor.I.getD_set_ne h15, Go.Proofs.YtghnkpfnpidncaaDoor.I.getD_set_ne h11]; exact h.i15
  · unfold PackEnv.stage; rw [Go.Proofs.YtghnkpfnpidncaaDoor.I.getD_set_ne h15, Go.Proofs.YtghnkpfnpidncaaDoor.I.getD_set_ne h11, Go.Proofs.YtghnkpfnpidncaaDoor.I.getD_set_ne h8]; exact h.out
theorem PackEnv.C.alloc {E : PackEnv} {l : Array Bool} {w : World} (h : E.C l w) (hb : E.base ≤ E.V.heap.size) (o : Obj) : E.C l (w.alloc o) :=
  ⟨h.i11, h.i15, h.below.alloc (Nat.le_trans hb h.below.size) _, h.keeps.trans (Keeps.alloc _ _ _), h.out.alloc _⟩
theorem PackEnv.C.ne {E : PackEnv} {l : Array Bool} {w : World} (h : E.C l w) (hB : E.B < E.V.heap.size) : w.heap.size ≠ E.B := by have := h.below.size; omega
theorem PackEnv.C.load {E : PackEnv} {l : Array Bool} {w : World} (h : E.C l w) {cs : Array Value} (hb : E.V.heap[E.G]? = some (.cells cs 26 (0, 0))) (hne : E.G ≠ E.B) (j : Nat) : w.cell? ⟨E.G, j, none⟩ = E.V.cell? ⟨E.G, j, none⟩ :=
  cell_keeps h.keeps hb (by decide) hne
theorem bool_false {b : Bool} (h : ¬ b = true) : b = false := by cases b <;> simp_all
theorem PackEnv.C.at8 {E : PackEnv} {l : Array Bool} {w : World} (h : E.C l w) (h8 : l.getD 8 false = false) : OutAt E.base E.B [] w := by
  have h11 : l.getD 11 false = false := bool_false fun e => by rw [h.i11 e] at h8; cases h8
  have h15 : l.getD 15 false = false := bool_false fun e => by rw [h.i15 e] at h11; cases h11
  have := h.out
  unfold PackEnv.stage at this
  rw [h8, h11, h15] at this
  simpa using this
theorem PackEnv.C.at11 {E : PackEnv} {l : Array Bool} {w : World} (h : E.C l w) (h11 : l.getD 11 false = false) (h8 : l.getD 8 false = true) : OutAt E.base E.B E.b1 w := by
  have h15 : l.getD 15 false = false := bool_false fun e => by rw [h.i15 e] at h11; cases h11
  have := h.out
  unfold PackEnv.stage at this
  rw [h8, h11, h15] at this
  simpa using this
theorem PackEnv.C.at15 {E : PackEnv} {l : Array Bool} {w : World} (h : E.C l w) (h15 : l.getD 15 false = false) (h11 : l.getD 11 false = true) : OutAt E.base E.B E.b2 w := by
  have := h.out
  unfold PackEnv.stage at this
  rw [h11, h15] at this
  simpa using this
theorem PackEnv.C.call8 {E : PackEnv} {l : Array Bool} {w w' : World} (h : E.C l w) (hs : l.size = 16) (hun : l.getD 8 false = false) (hO : OutAt E.base E.B E.b1 w') (hB : Below E.base w w') (hK : Keeps E.B w w') : E.C (l.setIfInBounds 8 true) w' := by
  have h11 : l.getD 11 false = false := bool_false fun e => by rw [h.i11 e] at hun; cases hun
  have h15 : l.getD 15 false = false := bool_false fun e => by rw [h.i15 e] at h11; cases h11
  refine ⟨fun _ => Go.Proofs.YtghnkpfnpidncaaDoor.I.getD_set_self (by omega), ?_, h.below.trans hB, h.keeps.trans hK, ?_⟩
  · rw [Go.Proofs.YtghnkpfnpidncaaDoor.I.getD_set_ne (by decide), Go.Proofs.YtghnkpfnpidncaaDoor.I.getD_set_ne (by decide)]; exact h.i15
  · unfold PackEnv.stage; rw [Go.Proofs.YtghnkpfnpidncaaDoor.I.getD_set_ne (by decide), Go.Proofs.YtghnkpfnpidncaaDoor.I.getD_set_ne (by decide), Go.Proofs.YtghnkpfnpidncaaDoor.I.getD_set_self (by omega), h11, h15]; simpa using hO
theorem PackEnv.C.call11 {E : PackEnv} {l : Array Bool} {w w' : World} (h : E.C l w) (hs : l.size = 16) (hun : l.getD 11 false = false) (h8 : l.getD 8 false = true) (hO : OutAt E.base E.B E.b2 w') (hB : Below E.base w w') (hK : Keeps E.B w w') : E.C (l.setIfInBounds 11 true) w' := by
  have h15 : l.getD 15 false = false := bool_false fun e => by rw [h.i15 e] at hun; cases hun
  refine ⟨fun _ => by rw [Go.Proofs.YtghnkpfnpidncaaDoor.I.getD_set_ne (by decide)]; exact h8, fun _ => Go.Proofs.YtghnkpfnpidncaaDoor.I.getD_set_self (by omega), h.below.trans hB, h.keeps.trans hK, ?_⟩
  unfold PackEnv.stage; rw [Go.Proofs.YtghnkpfnpidncaaDoor.I.getD_set_ne (by decide), Go.Proofs.YtghnkpfnpidncaaDoor.I.getD_set_self (by omega), h15]; simpa using hO
theorem PackEnv.C.call15 {E : PackEnv} {l : Array Bool} {w w' : World} (h : E.C l w) (hs : l.size = 16) (h11 : l.getD 11 false = true) (hO : OutAt E.base E.B E.b3 w') (hB : Below E.base w w') (hK : Keeps E.B w w') : E.C (l.setIfInBounds 15 true) w' := by
  refine ⟨?_, fun _ => by rw [Go.Proofs.YtghnkpfnpidncaaDoor.I.getD_set_ne (by decide)]; exact h11, h.below.trans hB, h.keeps.trans hK, ?_⟩
  · rw [Go.Proofs.YtghnkpfnpidncaaDoor.I.getD_set_ne (by decide), Go.Proofs.YtghnkpfnpidncaaDoor.I.getD_set_ne (by decide)]; exact h.i11
  · unfold PackEnv.stage; rw [Go.Proofs.YtghnkpfnpidncaaDoor.I.getD_set_self (by omega)]; simpa using hO

/-- A frame of 25 slots, written out. -/
theorem frame25 (z : Act) (hs : z.tmps.size = 25) (hd : z.defers = []) : ∃ u : Nat → Value, (∀ i, u i = z.tmps.getD i undef) ∧ z = { tmps := #[u 0, u 1, u 2, u 3, u 4, u 5, u 6, u 7, u 8, u 9, u 10, u 11, u 12, u 13, u 14, u 15, u 16, u 17, u 18, u 19, u 20, u 21, u 22, u 23, u 24], defers := [] } := by
  refine ⟨fun i => z.tmps.getD i undef, fun _ => rfl, ?_⟩
  obtain ⟨⟨l⟩, ds⟩ := z
  simp only at hd
  subst hd
  match l, hs with
  | [a0, a1, a2, a3, a4, a5, a6, a7, a8, a9, a10, a11, a12, a13, a14, a15, a16, a17, a18, a19, a20, a21, a22, a23, a24], _ => rfl
/-- The bytes of a datagram, ahead of its sum. -/
def bodyS (e k : Int) (zs : List Int) (d : ByteArray) : List UInt8 := numsOf [e, k, (zs.length : Int)] ++ numsOf zs ++ textB d
/-- What Pack answers. -/
def packS (e k : Int) (zs : List Int) (d : ByteArray) : List UInt8 := if checkS e k zs d.size = 0 then bodyS e k zs d ++ S.tl (S.sumOf (bodyS e k zs d)) else []
def PackPost (l : List UInt8) (w : World) (en : Ending) (w' : World) : Prop := ∃ t : ByteArray, en = .returned (.string t) ∧ t.data.toList = l ∧ Below w.heap.size w w'
theorem tab_of' {w w' : World} (h : S.Tab w) (hb : Below w.heap.size w w') : S.Tab w' := S.tab_of h hb

set_option maxRecDepth 100000 in
set_option maxHeartbeats 8000000 in
theorem pack_in (n : Nat) (hn : 5 ≤ n) (e k : Int) (a : Option Addr) (len cap : Nat) (d : ByteArray) (zs : List Int) (w : World) (h : NumsAt a len zs w) (hd : (d.size : Int) ≤ 100000) (hT : S.Tab w) :
    CallsIn Fence.wide n Tryd.prog 11 #[gramV e k a len cap d] w (PackPost (packS e k zs d) w) := by
  obtain ⟨G, hG⟩ : ∃ G, w.heap.size = G := ⟨_, rfl⟩
  have HT := Lib.hid hT
  have HD := Lib.hid hd
  obtain ⟨w1, hw1⟩ : ∃ w1, w.alloc (.cells #[.int .i64 e, .int .i64 k, .slice a len cap, .string d] 26) = w1 := ⟨_, rfl⟩
  have hb1 : Below w.heap.size w w1 := by rw [← hw1]; exact (Below.refl _ _).alloc (Nat.le_refl _) _
  have hbox : w1.heap[G]? = some (.cells #[.int .i64 e, .int .i64 k, .slice a len cap, .string d] 26 (0, 0)) := by rw [← hw1, ← hG]; exact World.alloc_heap_new _ _
  have hGl : G < w1.heap.size := (Array.getElem?_eq_some_iff.1 hbox).1
  have c0 : w1.cell? ⟨G, 0, none⟩ = some (.int .i64 e) := by rw [Lib.cell_of_heap hbox]; rfl
  have c1 : w1.cell? ⟨G, 1, none⟩ = some (.int .i64 k) := by rw [Lib.cell_of_heap hbox]; rfl
  have c2 : w1.cell? ⟨G, 2, none⟩ = some (.slice a len cap) := by rw [Lib.cell_of_heap hbox]; rfl
  have c3 : w1.cell? ⟨G, 3, none⟩ = some (.string d) := by rw [Lib.cell_of_heap hbox]; rfl
  have HCk := Lib.hid (check_any e k a len cap d zs w1 (h.numsIn.below hb1) (by omega))
  obtain ⟨R, hR⟩ : ∃ R, checkS e k zs d.size = R := ⟨_, rfl⟩
  rw [hR] at HCk
  have HN := Lib.hid h
  have HBox := Lib.hid hbox
  have HGl := Lib.hid hGl
  have HG := Lib.hid hG
  have HB1 := Lib.hid hb1
  have HR := Lib.hid hR
  have HW1 := Lib.hid hw1
  obtain ⟨P, hP⟩ : ∃ P, PackPost (packS e k zs d) w = P := ⟨_, rfl⟩
  have HP := Lib.hid hP
  rw [hP]
  unfold gramV at *
  refine callsIn_of_wp Tryd.func11 rfl trivial ?_ rfl
  simp only [Tryd.ntmps11, List.size_toArray, List.length_cons, List.length_nil, Nat.reduceAdd, Nat.reduceSub, Array.replicate_succ, Array.replicate_zero, List.push_toArray, List.append_toArray, List.nil_append, List.cons_append]
  clear hP hR hb1 hbox hGl hT hd h
  gi_wp2_with fail
  refine ⟨trivial, fun _ => by omega, ?_⟩
  refine (callsIn_wide.2 HCk.out).mono ?_
  rintro en w2 ⟨rfl, hb2⟩
  have HB2 : Hid (Below w.heap.size w w2) := Lib.hid (HB1.out.trans (hb2.mono HB1.out.size))
  by_cases hR0 : R = 0
  · subst hR0
    have hbx2 : w2.heap[G]? = some (.cells #[.int .i64 e, .int .i64 k, .slice a len cap, .string d] 26 (0, 0)) := (hb2.block G HGl.out).trans HBox.out
    obtain ⟨B, hB⟩ : ∃ B, w2.heap.size = B := ⟨_, rfl⟩
    obtain ⟨V, hV⟩ : ∃ V, w2.alloc (.cells #[.slice none 0 0] 63) = V := ⟨_, rfl⟩
    have hGB : G ≠ B := by have := (Array.getElem?_eq_some_iff.1 hbx2).1; omega
    have hBG : G < B := by have := (Array.getElem?_eq_some_iff.1 hbx2).1; omega
    have hBl : B < V.heap.size := by rw [← hV, ← hB]; simp
    have hO : OutAt G B [] V := by rw [← hV, ← hB]; exact out_new G w2
    have hbx : V.heap[G]? = some (.cells #[.int .i64 e, .int .i64 k, .slice a len cap, .string d] 26 (0, 0)) := by rw [← hV, Below.heap_alloc w2 _ G (by omega)]; exact hbx2
    have hBV : Below G w V := by rw [← hV, ← HG.out]; exact HB2.out.alloc (HB2.out.size) _
    have hN := HN.out
    have hzl : zs.length ≤ 64 := by
      have h0 := HR.out
      unfold checkS at h0
      by_cases hs : soundS e k zs = true
      · exact sound_len hs
      · rw [if_neg hs] at h0; cases h0
    clear c0 c1 c2 c3
    have c0 : V.cell? ⟨G, 0, none⟩ = some (.int .i64 e) := by rw [Lib.cell_of_heap hbx]; rfl
    have c1 : V.cell? ⟨G, 1, none⟩ = some (.int .i64 k) := by rw [Lib.cell_of_heap hbx]; rfl
    have c2 : V.cell? ⟨G, 2, none⟩ = some (.slice a len cap) := by rw [Lib.cell_of_heap hbx]; rfl
    have c3 : V.cell? ⟨G, 3, none⟩ = some (.string d) := by rw [Lib.cell_of_heap hbx]; rfl
    have HBx := Lib.hid hbx
    have HGB := Lib.hid hGB
    have HBl := Lib.hid hBl
    have HBW : Hid (G ≤ V.heap.size) := Lib.hid (by omega)
    have HO := Lib.hid hO
    have HBV := Lib.hid hBV
    have hl1 : (numsOf [e, k, (len : Int)]).length ≤ 27 := by have := numsOf_le [e, k, (len : Int)]; simpa using this
    have hl2 : (numsOf zs).length ≤ 576 := by have := numsOf_le zs; omega
    obtain ⟨b1, hb1⟩ : ∃ b1, numsOf [e, k, (len : Int)] = b1 := ⟨_, rfl⟩
    obtain ⟨b2, hb2'⟩ : ∃ b2, b1 ++ numsOf zs = b2 := ⟨_, rfl⟩
    obtain ⟨b3, hb3⟩ : ∃ b3, b2 ++ textB d = b3 := ⟨_, rfl⟩
    have hdd := HD.out
    have hx1 : (b1.length : Int) ≤ 27 := by rw [← hb1]; omega
    have hx2 : (b2.length : Int) ≤ 700 := by rw [← hb2', List.length_append]; rw [hb1] at hl1; omega
    have hx3 : (b3.length : Int) ≤ 101000 := by have := textB_len d; rw [← hb3, List.length_append]; omega
    have HNum1 : Hid (∀ X v, X ≠ B → v.heap[X]? = some (.cells #[.int .i64 e, .int .i64 k, .int .i64 (len : Int)] 3 (0, 0)) → OutAt G B [] v → G ≤ v.heap.size → Calls Tryd.prog 27 #[.pointer (some ⟨B, 0, none⟩), .slice (some ⟨X, 0, none⟩) 3 3] v (Wrote G B b1 v)) :=
      Lib.hid fun X v h1 h2 h3 h4 => by have h := num_head G B X e k len [] v (by simp) (Nat.le_of_lt hBG) h1 h2 h3 h4; rw [List.nil_append, hb1] at h; exact h
    have HNum2 : Hid (∀ v, OutAt G B b1 v → Below G V v → Calls Tryd.prog 27 #[.pointer (some ⟨B, 0, none⟩), .slice a len cap] v (Wrote G B b2 v)) :=
      Lib.hid fun v h1 h2 => by
        have h := num_list G B a len cap zs b1 w v hN (by omega) (Nat.le_of_lt hBG) (fun b off e => by
          rcases hN.2 with ⟨h0, _⟩ | ⟨b', off', h0, hl, _⟩
          · rw [h0] at e; cases e
          · rw [h0] at e; cases e; rw [← HG.out]; exact hl) (HBV.out.trans h2) h1 (by have := h2.size; have := HBW.out; omega)
        rw [hb2'] at h; exact h
    have HText : Hid (∀ X v, X ≠ B → v.heap[X]? = some (.cells #[.string d] 9 (0, 0)) → OutAt G B b2 v → G ≤ v.heap.size → Calls Tryd.prog 28 #[.pointer (some ⟨B, 0, none⟩), .slice (some ⟨X, 0, none⟩) 1 1] v (Wrote G B b3 v)) :=
      Lib.hid fun X v h1 h2 h3 h4 => by have h := text_new G B X d b2 v (by omega) (Nat.le_of_lt hBG) h1 h2 h3 h4; rw [hb3] at h; exact h
    have HBody : Hid (b3 = bodyS e k zs d) := Lib.hid (by rw [← hb3, ← hb2', ← hb1]; unfold bodyS; rw [hN.1])
    have HV := Lib.hid hV
    have HBs := Lib.hid hB
    clear hbx2 hbx hGB hBG hBl hO hBV hN hzl hl1 hl2 hb1 hb2' hb3 hdd hb2 hx1 hx2
    gi_wp2
    clear hV hB hw1 hG
    refine wpIn_region_rel (by kernel_rfl) (PackEnv.C { base := G, B := B, G := G, V := V, e := e, k := k, a := a, len := len, cap := cap, d := d, b1 := b1, b2 := b2, b3 := b3 }) (PackEnv.Ok { base := G, B := B, G := G, V := V, e := e, k := k, a := a, len := len, cap := cap, d := d, b1 := b1, b2 := b2, b3 := b3 }) (by rfl) (by kernel_rfl) (by kernel_rfl) ?hop ?hdone ?h0
    case h0 => exact ⟨fun h => by simp at h, fun h => by simp at h, (Below.refl _ _).drew, Keeps.drew _ _, by unfold PackEnv.stage; simp; exact HO.out⟩
    case hdone =>
      intro listed z v hC hall hag hok
      have hO3 : OutAt G B b3 v := by
        have h := hC.out
        unfold PackEnv.stage at h
        rw [hall 15 (by decide)] at h
        simpa using h
      have z3 : z.tmps.getD 3 undef = .pointer (some ⟨B, 0, none⟩) := hag.2.2 3 (by kernel_rfl)
      obtain ⟨u, hu, hz⟩ := frame25 z hag.2.1 hag.1
      have e3 : u 3 = .pointer (some ⟨B, 0, none⟩) := (hu 3).trans z3
      have hBv : Below w.heap.size w v := by have h := HBV.out.trans hC.below; rw [← HG.out] at h; exact h
      obtain ⟨s, hs⟩ : ∃ s : ByteArray, (⟨b3.toArray⟩ : ByteArray) = s := ⟨_, rfl⟩
      have hsl : s.data.toList = b3 := by rw [← hs]
      have hse : s.size = b3.length := by rw [← hsl]; rfl
      have hsz : (s.size : Int) ≤ 110000 := by omega
      have HBytes := Lib.hid (bytes_any G B b3 v hO3)
      rw [hs] at HBytes
      have HSeal := Lib.hid (S.seal_any s hsz v (S.tab_of HT.out hBv))
      have HSl := Lib.hid hsl
      have HBv := Lib.hid hBv
      clear hu z3 hag hok hall hC hO3 hBv hs hsl hse hsz hx3
      subst hz
      rw [e3]
      clear e3
      gi_wp2_with fail
      refine ⟨trivial, fun _ => by omega, ?_⟩
      refine (callsIn_wide.2 HBytes.out).mono ?_
      rintro en w' ⟨rfl, rfl⟩
      gi_wp2_with fail
      refine ⟨trivial, fun _ => by omega, ?_⟩
      refine (callsIn_wide.2 HSeal.out).mono ?_
      rintro en w4 ⟨⟨t, rfl, hts, htl⟩, hb4⟩
      have HTl := Lib.hid htl
      have HB4 : Hid (Below w.heap.size w w4) := Lib.hid (HBv.out.trans (hb4.mono HBv.out.size))
      clear hts htl hb4
      gi_wp2
      rw [← HP.out]
      exact ⟨t, rfl, by rw [HTl.out, HSl.out, HBody.out]; unfold packS; rw [if_pos HR.out], HB4.out⟩
    case hop =>
      refine ⟨?_, ?_, ?_, ?_, ?_, ?_, ?_, ?_, ?_, ?_, ?_, ?_, ?_, ?_, ?_, ?_, trivial⟩
      · intro listed z v hC hlsz hun hdl hag hdep
        refine .inl ⟨rfl, fun K hK => ?_⟩
        have d1 : z.tmps.getD 1 undef = .pointer (some ⟨G, 0, none⟩) := hag.2.2 1 (by kernel_rfl)
        have e1 := d1
        rw [Array.getD_eq_getD_getElem?] at e1
        have HC := Lib.hid hC
        clear hC hdep hag hdl c0 c1 c2 c3
        go_simp
        exact hK _ _ (HC.out.same (by decide) (by decide) (by decide)) (fun _ _ _ _ h => h) rfl
      · intro listed z v hC hlsz hun hdl hag hdep
        refine .inl ⟨rfl, fun K hK => ?_⟩
        have d7 : z.tmps.getD 7 undef = .pointer (some ⟨G, 0, none⟩) := hdep { on := 0, ground := .data } (by simp) rfl _ _ rfl rfl
        have e7 := d7
        rw [Array.getD_eq_getD_getElem?] at e7
        have hc0 : v.cell? ⟨G, 0, none⟩ = some (.int .i64 e) := (PackEnv.C.load hC HBx.out HGB.out 0).trans c0
        have hc1 : v.cell? ⟨G, 1, none⟩ = some (.int .i64 k) := (PackEnv.C.load hC HBx.out HGB.out 1).trans c1
        have hc2 : v.cell? ⟨G, 2, none⟩ = some (.slice a len cap) := (PackEnv.C.load hC HBx.out HGB.out 2).trans c2
        have hc3 : v.cell? ⟨G, 3, none⟩ = some (.string d) := (PackEnv.C.load hC HBx.out HGB.out 3).trans c3
        have HC := Lib.hid hC
        clear hC hdep hag hdl c0 c1 c2 c3
        go_simp
        exact hK _ _ (HC.out.same (by decide) (by decide) (by decide)) (fun _ _ _ _ h => h) rfl
      · intro listed z v hC hlsz hun hdl hag hdep
        refine .inl ⟨rfl, fun K hK => ?_⟩
        have d1 : z.tmps.getD 1 undef = .pointer (some ⟨G, 0, none⟩) := hag.2.2 1 (by kernel_rfl)
        have e1 := d1
        rw [Array.getD_eq_getD_getElem?] at e1
        have HC := Lib.hid hC
        clear hC hdep hag hdl c0 c1 c2 c3
        go_simp
        exact hK _ _ (HC.out.same (by decide) (by decide) (by decide)) (fun _ _ _ _ h => h) rfl
      · intro listed z v hC hlsz hun hdl hag hdep
        refine .inl ⟨rfl, fun K hK => ?_⟩
        have d9 : z.tmps.getD 9 undef = .pointer (some ⟨G, 1, none⟩) := hdep { on := 2, ground := .data } (by simp) rfl _ _ rfl rfl
        have e9 := d9
        rw [Array.getD_eq_getD_getElem?] at e9
        have hc0 : v.cell? ⟨G, 0, none⟩ = some (.int .i64 e) := (PackEnv.C.load hC HBx.out HGB.out 0).trans c0
        have hc1 : v.cell? ⟨G, 1, none⟩ = some (.int .i64 k) := (PackEnv.C.load hC HBx.out HGB.out 1).trans c1
        have hc2 : v.cell? ⟨G, 2, none⟩ = some (.slice a len cap) := (PackEnv.C.load hC HBx.out HGB.out 2).trans c2
        have hc3 : v.cell? ⟨G, 3, none⟩ = some (.string d) := (PackEnv.C.load hC HBx.out HGB.out 3).trans c3
        have HC := Lib.hid hC
        clear hC hdep hag hdl c0 c1 c2 c3
        go_simp
        exact hK _ _ (HC.out.same (by decide) (by decide) (by decide)) (fun _ _ _ _ h => h) rfl
      · intro listed z v hC hlsz hun hdl hag hdep
        refine .inl ⟨rfl, fun K hK => ?_⟩
        have d1 : z.tmps.getD 1 undef = .pointer (some ⟨G, 0, none⟩) := hag.2.2 1 (by kernel_rfl)
        have e1 := d1
        rw [Array.getD_eq_getD_getElem?] at e1
        have HC := Lib.hid hC
        clear hC hdep hag hdl c0 c1 c2 c3
        go_simp
        exact hK _ _ (HC.out.same (by decide) (by decide) (by decide)) (fun _ _ _ _ h => h) rfl
      · intro listed z v hC hlsz hun hdl hag hdep
        refine .inl ⟨rfl, fun K hK => ?_⟩
        have d11 : z.tmps.getD 11 undef = .pointer (some ⟨G, 2, none⟩) := hdep { on := 4, ground := .data } (by simp) rfl _ _ rfl rfl
        have e11 := d11
        rw [Array.getD_eq_getD_getElem?] at e11
        have hc0 : v.cell? ⟨G, 0, none⟩ = some (.int .i64 e) := (PackEnv.C.load hC HBx.out HGB.out 0).trans c0
        have hc1 : v.cell? ⟨G, 1, none⟩ = some (.int .i64 k) := (PackEnv.C.load hC HBx.out HGB.out 1).trans c1
        have hc2 : v.cell? ⟨G, 2, none⟩ = some (.slice a len cap) := (PackEnv.C.load hC HBx.out HGB.out 2).trans c2
        have hc3 : v.cell? ⟨G, 3, none⟩ = some (.string d) := (PackEnv.C.load hC HBx.out HGB.out 3).trans c3
        have HC := Lib.hid hC
        clear hC hdep hag hdl c0 c1 c2 c3
        go_simp
        exact hK _ _ (HC.out.same (by decide) (by decide) (by decide)) (fun _ _ _ _ h => h) rfl
      · intro listed z v hC hlsz hun hdl hag hdep
        refine .inl ⟨rfl, fun K hK => ?_⟩
        have d12 : z.tmps.getD 12 undef = .slice a len cap := hdep { on := 5, ground := .data } (by simp) rfl _ _ rfl rfl
        have e12 := d12
        rw [Array.getD_eq_getD_getElem?] at e12
        have HC := Lib.hid hC
        clear hC hdep hag hdl c0 c1 c2 c3
        go_simp
        exact hK _ _ (HC.out.same (by decide) (by decide) (by decide)) (fun _ _ _ _ h => h) rfl
      · intro listed z v hC hlsz hun hdl hag hdep
        refine .inl ⟨rfl, fun K hK => ?_⟩
        have d8 : z.tmps.getD 8 undef = .int .i64 e := hdep { on := 1, ground := .data } (by simp) rfl _ _ rfl rfl
        have e8 := d8
        rw [Array.getD_eq_getD_getElem?] at e8
        have d10 : z.tmps.getD 10 undef = .int .i64 k := hdep { on := 3, ground := .data } (by simp) rfl _ _ rfl rfl
        have e10 := d10
        rw [Array.getD_eq_getD_getElem?] at e10
        have d13 : z.tmps.getD 13 undef = .int .i64 (len : Int) := hdep { on := 6, ground := .data } (by simp) rfl _ _ rfl rfl
        have e13 := d13
        rw [Array.getD_eq_getD_getElem?] at e13
        have HC := Lib.hid hC
        clear hC hdep hag hdl c0 c1 c2 c3
        go_simp
        exact hK _ _ ((HC.out.same (by decide) (by decide) (by decide)).alloc HBW.out _) (fun _ _ _ _ h => PackEnv.Ok.keeps h (Keeps.alloc _ _ _)) ⟨v.heap.size, rfl, HC.out.ne HBl.out, World.alloc_heap_new _ _⟩
      · intro listed z v hC hlsz hun hdl hag hdep
        refine .inl ⟨rfl, fun K hK => ?_⟩
        have d3 : z.tmps.getD 3 undef = .pointer (some ⟨B, 0, none⟩) := hag.2.2 3 (by kernel_rfl)
        have e3 := d3
        rw [Array.getD_eq_getD_getElem?] at e3
        obtain ⟨X, d14, hX, hXc⟩ : ∃ X, z.tmps.getD 14 undef = .slice (some ⟨X, 0, none⟩) 3 3 ∧ X ≠ B ∧ v.heap[X]? = some (.cells #[.int .i64 e, .int .i64 k, .int .i64 (len : Int)] 3 (0, 0)) := hdep { on := 7, ground := .data } (by simp) rfl _ _ rfl rfl
        have e14 := d14
        rw [Array.getD_eq_getD_getElem?] at e14
        have HC := Lib.hid hC
        have HCall := Lib.hid (HNum1.out X v hX hXc (HC.out.at8 hun ) (Nat.le_trans HBW.out HC.out.below.size))
        have hll := hlsz
        have HDl := Lib.hid hdl
        clear hC hdep hag hdl c0 c1 c2 c3
        go_simp
        refine ⟨trivial, fun _ => by omega, ?_⟩
        refine (callsIn_wide.2 HCall.out).mono ?_
        rintro e' w' ⟨rfl, hO', hB', hK'⟩
        exact hK _ _ (HC.out.call8 hll hun hO' hB' hK') (fun _ _ _ _ h => PackEnv.Ok.keeps h hK') rfl
      · intro listed z v hC hlsz hun hdl hag hdep
        refine .inl ⟨rfl, fun K hK => ?_⟩
        have d1 : z.tmps.getD 1 undef = .pointer (some ⟨G, 0, none⟩) := hag.2.2 1 (by kernel_rfl)
        have e1 := d1
        rw [Array.getD_eq_getD_getElem?] at e1
        have HC := Lib.hid hC
        clear hC hdep hag hdl c0 c1 c2 c3
        go_simp
        exact hK _ _ (HC.out.same (by decide) (by decide) (by decide)) (fun _ _ _ _ h => h) rfl
      · intro listed z v hC hlsz hun hdl hag hdep
        refine .inl ⟨rfl, fun K hK => ?_⟩
        have d16 : z.tmps.getD 16 undef = .pointer (some ⟨G, 2, none⟩) := hdep { on := 9, ground := .data } (by simp) rfl _ _ rfl rfl
        have e16 := d16
        rw [Array.getD_eq_getD_getElem?] at e16
        have hc0 : v.cell? ⟨G, 0, none⟩ = some (.int .i64 e) := (PackEnv.C.load hC HBx.out HGB.out 0).trans c0
        have hc1 : v.cell? ⟨G, 1, none⟩ = some (.int .i64 k) := (PackEnv.C.load hC HBx.out HGB.out 1).trans c1
        have hc2 : v.cell? ⟨G, 2, none⟩ = some (.slice a len cap) := (PackEnv.C.load hC HBx.out HGB.out 2).trans c2
        have hc3 : v.cell? ⟨G, 3, none⟩ = some (.string d) := (PackEnv.C.load hC HBx.out HGB.out 3).trans c3
        have HC := Lib.hid hC
        clear hC hdep hag hdl c0 c1 c2 c3
        go_simp
        exact hK _ _ (HC.out.same (by decide) (by decide) (by decide)) (fun _ _ _ _ h => h) rfl
      · intro listed z v hC hlsz hun hdl hag hdep
        refine .inl ⟨rfl, fun K hK => ?_⟩
        have d15 : z.tmps.getD 15 undef = .pointer (some ⟨B, 0, none⟩) := hdep { on := 8, ground := .data } (by simp) rfl _ _ rfl rfl
        have e15 := d15
        rw [Array.getD_eq_getD_getElem?] at e15
        have d17 : z.tmps.getD 17 undef = .slice a len cap := hdep { on := 10, ground := .data } (by simp) rfl _ _ rfl rfl
        have e17 := d17
        rw [Array.getD_eq_getD_getElem?] at e17
        have HC := Lib.hid hC
        have HCall := Lib.hid (HNum2.out v (HC.out.at11 hun (hdl { on := 8, ground := .data } (by simp) rfl)) HC.out.below)
        have hll := hlsz
        have HDl := Lib.hid hdl
        clear hC hdep hag hdl c0 c1 c2 c3
        go_simp
        refine ⟨trivial, fun _ => by omega, ?_⟩
        refine (callsIn_wide.2 HCall.out).mono ?_
        rintro e' w' ⟨rfl, hO', hB', hK'⟩
        exact hK _ _ (HC.out.call11 hll hun (HDl.out { on := 8, ground := .data } (by simp) rfl) hO' hB' hK') (fun _ _ _ _ h => PackEnv.Ok.keeps h hK') rfl
      · intro listed z v hC hlsz hun hdl hag hdep
        refine .inl ⟨rfl, fun K hK => ?_⟩
        have d1 : z.tmps.getD 1 undef = .pointer (some ⟨G, 0, none⟩) := hag.2.2 1 (by kernel_rfl)
        have e1 := d1
        rw [Array.getD_eq_getD_getElem?] at e1
        have HC := Lib.hid hC
        clear hC hdep hag hdl c0 c1 c2 c3
        go_simp
        exact hK _ _ (HC.out.same (by decide) (by decide) (by decide)) (fun _ _ _ _ h => h) rfl
      · intro listed z v hC hlsz hun hdl hag hdep
        refine .inl ⟨rfl, fun K hK => ?_⟩
        have d19 : z.tmps.getD 19 undef = .pointer (some ⟨G, 3, none⟩) := hdep { on := 12, ground := .data } (by simp) rfl _ _ rfl rfl
        have e19 := d19
        rw [Array.getD_eq_getD_getElem?] at e19
        have hc0 : v.cell? ⟨G, 0, none⟩ = some (.int .i64 e) := (PackEnv.C.load hC HBx.out HGB.out 0).trans c0
        have hc1 : v.cell? ⟨G, 1, none⟩ = some (.int .i64 k) := (PackEnv.C.load hC HBx.out HGB.out 1).trans c1
        have hc2 : v.cell? ⟨G, 2, none⟩ = some (.slice a len cap) := (PackEnv.C.load hC HBx.out HGB.out 2).trans c2
        have hc3 : v.cell? ⟨G, 3, none⟩ = some (.string d) := (PackEnv.C.load hC HBx.out HGB.out 3).trans c3
        have HC := Lib.hid hC
        clear hC hdep hag hdl c0 c1 c2 c3
        go_simp
        exact hK _ _ (HC.out.same (by decide) (by decide) (by decide)) (fun _ _ _ _ h => h) rfl
      · intro listed z v hC hlsz hun hdl hag hdep
        refine .inl ⟨rfl, fun K hK => ?_⟩
        have d20 : z.tmps.getD 20 undef = .string d := hdep { on := 13, ground := .data } (by simp) rfl _ _ rfl rfl
        have e20 := d20
        rw [Array.getD_eq_getD_getElem?] at e20
        have HC := Lib.hid hC
        clear hC hdep hag hdl c0 c1 c2 c3
        go_simp
        exact hK _ _ ((HC.out.same (by decide) (by decide) (by decide)).alloc HBW.out _) (fun _ _ _ _ h => PackEnv.Ok.keeps h (Keeps.alloc _ _ _)) ⟨v.heap.size, rfl, HC.out.ne HBl.out, World.alloc_heap_new _ _⟩
      · intro listed z v hC hlsz hun hdl hag hdep
        refine .inl ⟨rfl, fun K hK => ?_⟩
        have d18 : z.tmps.getD 18 undef = .pointer (some ⟨B, 0, none⟩) := hdep { on := 11, ground := .data } (by simp) rfl _ _ rfl rfl
        have e18 := d18
        rw [Array.getD_eq_getD_getElem?] at e18
        obtain ⟨X, d21, hX, hXc⟩ : ∃ X, z.tmps.getD 21 undef = .slice (some ⟨X, 0, none⟩) 1 1 ∧ X ≠ B ∧ v.heap[X]? = some (.cells #[.string d] 9 (0, 0)) := hdep { on := 14, ground := .data } (by simp) rfl _ _ rfl rfl
        have e21 := d21
        rw [Array.getD_eq_getD_getElem?] at e21
        have HC := Lib.hid hC
        have HCall := Lib.hid (HText.out X v hX hXc (HC.out.at15 hun (hdl { on := 11, ground := .data } (by simp) rfl)) (Nat.le_trans HBW.out HC.out.below.size))
        have hll := hlsz
        have HDl := Lib.hid hdl
        clear hC hdep hag hdl c0 c1 c2 c3
        go_simp
        refine ⟨trivial, fun _ => by omega, ?_⟩
        refine (callsIn_wide.2 HCall.out).mono ?_
        rintro e' w' ⟨rfl, hO', hB', hK'⟩
        exact hK _ _ (HC.out.call15 hll (HDl.out { on := 11, ground := .data } (by simp) rfl) hO' hB' hK') (fun _ _ _ _ h => PackEnv.Ok.keeps h hK') rfl
  · have hne : ((R : Int) == 0) = false := by rw [beq_eq_false_iff_ne]; omega
    have hne2 : ((R : Int) != 0) = true := by rw [bne_iff_ne]; omega
    have HNe := Lib.hid hR0
    clear hR0 c0 c1 c2 c3 hw1 hG hb2
    gi_wp2
    rw [← HP.out]
    exact ⟨_, rfl, by unfold packS; rw [if_neg (by rw [HR.out]; exact HNe.out)], HB2.out⟩
theorem pack_any (e k : Int) (a : Option Addr) (len cap : Nat) (d : ByteArray) (zs : List Int) (w : World) (h : NumsAt a len zs w) (hd : (d.size : Int) ≤ 100000) (hT : S.Tab w) :
    Calls Tryd.prog 11 #[gramV e k a len cap d] w (PackPost (packS e k zs d) w) :=
  (callsIn_wide (n := 5)).1 (pack_in 5 (Nat.le_refl _) e k a len cap d zs w h hd hT)
end Go.Proofs.YtghnkpfnpidncaaDoor.G
