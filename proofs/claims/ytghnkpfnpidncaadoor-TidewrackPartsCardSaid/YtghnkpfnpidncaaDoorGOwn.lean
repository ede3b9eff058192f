/- Own: a datagram, cut, for the program and for the document. -/
import Derived.Test.YtghnkpfnpidncaaDoorGIs
import Derived.Test.YtghnkpfnpidncaaDoorGRead
import Derived.Test.YtghnkpfnpidncaaDoorRelT
import Derived.Test.YtghnkpfnpidncaaDoorISmall
namespace Go.Proofs.YtghnkpfnpidncaaDoor.G
open Go.RowKit Go.Proofs.YtghnkpfnpidncaaDoor.I

theorem frame33 (z : Act) (hs : z.tmps.size = 33) (hd : z.defers = []) : ∃ u : Nat → Value, (∀ i, u i = z.tmps.getD i undef) ∧ z = { tmps := #[u 0, u 1, u 2, u 3, u 4, u 5, u 6, u 7, u 8, u 9, u 10, u 11, u 12, u 13, u 14, u 15, u 16, u 17, u 18, u 19, u 20, u 21, u 22, u 23, u 24, u 25, u 26, u 27, u 28, u 29, u 30, u 31, u 32], defers := [] } := by
  refine ⟨fun i => z.tmps.getD i undef, fun _ => rfl, ?_⟩
  obtain ⟨tmps, ds⟩ := z
  simp only at hd hs
  subst hd
  have hz : tmps = ((List.range 33).map fun i => tmps.getD i undef).toArray := by
    apply Array.ext
    · simp [hs]
    · intro i h1 h2
      simp [Array.getD_eq_getD_getElem?, h1]
  exact congrArg (fun t => ({ tmps := t, defers := [] } : Act)) hz
def OwnOk1 (B M : Nat) (e k : Int) (a : Option Addr) (len cap : Nat) (d t : ByteArray) (ys : List Int) : Nat → Value → World → Prop
  | 0, u, _ => u = .pointer (some ⟨B, 0, none⟩)
  | 1, u, _ => u = .int .i64 e
  | 2, u, _ => u = .pointer (some ⟨B, 1, none⟩)
  | 3, u, _ => u = .int .i64 k
  | 4, u, w => ∃ g, u = .slice (some ⟨g, 0, none⟩) 0 0 ∧ g < w.heap.size ∧ B + 2 < g
  | 5, u, _ => u = .pointer (some ⟨B, 2, none⟩)
  | 6, u, _ => u = .slice a len cap
  | 7, u, _ => u = .pointer (some ⟨B, 2, none⟩)
  | 8, u, _ => u = .slice a len cap
  | 9, u, _ => u = .int .i64 (len : Int)
  | 10, u, _ => u = .int .i64 (M : Int)
  | 11, u, _ => u = .slice a M cap
  | 12, u, w => ∃ a' c', u = .slice a' M c' ∧ NumsAt a' M ys w ∧ ∀ b off, a' = some ⟨b, off, none⟩ → B + 2 < b
  | 13, u, _ => u = .pointer (some ⟨B, 3, none⟩)
  | 14, u, _ => u = .string d
  | 15, u, _ => u = .string t
  | 16, u, w => ∃ a' c', u = .agg #[.int .i64 e, .int .i64 k, .slice a' M c', .string t] ∧ NumsAt a' M ys w ∧ ∀ b off, a' = some ⟨b, off, none⟩ → B + 2 < b
  | _, _, _ => True
theorem OwnOk1.keeps {B M : Nat} {e k : Int} {a : Option Addr} {len cap : Nat} {d t : ByteArray} {ys : List Int} (i : Nat) (u : Value) (w w' : World) (h : OwnOk1 B M e k a len cap d t ys i u w) (hb : Below w.heap.size w w') : OwnOk1 B M e k a len cap d t ys i u w' := by
  unfold OwnOk1 at h ⊢
  split <;> first | exact True.intro | exact h | skip
  · obtain ⟨g, h1, h2, h3⟩ := h
    exact ⟨g, h1, Nat.lt_of_lt_of_le h2 hb.size, h3⟩
  · obtain ⟨a', c', h1, h2, h3⟩ := h
    exact ⟨a', c', h1, h2.below hb, h3⟩
  · obtain ⟨a', c', h1, h2, h3⟩ := h
    exact ⟨a', c', h1, h2.below hb, h3⟩
theorem results_cell_cell {fn : Func} {p q : Tmp} {ty tz : TypeId} (h : fn.results = #[.cell p ty, .cell q tz]) (tmps : Array Value) (P : Program) (w : World) :
    (results fn tmps).run P w =
      ((asAddr (tmps.getD p undef)).run P w).andThen fun a w₁ => ((loadVar ty a).run P w₁).andThen fun v w₂ => ((asAddr (tmps.getD q undef)).run P w₂).andThen fun a' w₃ => ((loadVar tz a').run P w₃).andThen fun v' w₄ => .ok (.tuple #[v, v']) w₄ := by
  simp only [results, h]
  simp [Sem.run_bind, Result.andThen]
/-- A block of four cells of type T. -/
def QBlk (T : TypeId) (g : Nat) (a b c d : Value) (w : World) : Prop := w.heap[g]? = some (.cells #[a, b, c, d] T (0, 0))
theorem QBlk.lt {T : TypeId} {g : Nat} {a b c d : Value} {w : World} (h : QBlk T g a b c d w) : g < w.heap.size := (Array.getElem?_eq_some_iff.1 h).1
theorem QBlk.c0 {T : TypeId} {g : Nat} {a b c d : Value} {w : World} (h : QBlk T g a b c d w) : w.cell? ⟨g, 0, none⟩ = some a := by rw [Lib.cell_of_heap h]; rfl
theorem QBlk.c1 {T : TypeId} {g : Nat} {a b c d : Value} {w : World} (h : QBlk T g a b c d w) : w.cell? ⟨g, 1, none⟩ = some b := by rw [Lib.cell_of_heap h]; rfl
theorem QBlk.c2 {T : TypeId} {g : Nat} {a b c d : Value} {w : World} (h : QBlk T g a b c d w) : w.cell? ⟨g, 2, none⟩ = some c := by rw [Lib.cell_of_heap h]; rfl
theorem QBlk.c3 {T : TypeId} {g : Nat} {a b c d : Value} {w : World} (h : QBlk T g a b c d w) : w.cell? ⟨g, 3, none⟩ = some d := by rw [Lib.cell_of_heap h]; rfl
theorem QBlk.fr {T : TypeId} {g : Nat} {a b c d : Value} {w : World} (h : QBlk T g a b c d w) (o : Nat) : w.frozen? ⟨g, o, none⟩ = false := by simp [World.frozen?, show w.heap[g]? = _ from h]
theorem QBlk.setCell {T : TypeId} {g : Nat} {cs : Array Value} {w : World} (h : w.heap[g]? = some (.cells cs T (0, 0))) (o : Nat) (v : Value) : (w.setCell ⟨g, o, none⟩ v).heap[g]? = some (.cells (cs.setIfInBounds o v) T (0, 0)) := by
  simp [World.setCell, Array.getElem?_modify, h]
theorem QBlk.set0 {T : TypeId} {g : Nat} {a b c d : Value} {w : World} (h : QBlk T g a b c d w) (v : Value) : QBlk T g v b c d (w.setCell ⟨g, 0, none⟩ v) := QBlk.setCell h 0 v
theorem QBlk.set1 {T : TypeId} {g : Nat} {a b c d : Value} {w : World} (h : QBlk T g a b c d w) (v : Value) : QBlk T g a v c d (w.setCell ⟨g, 1, none⟩ v) := QBlk.setCell h 1 v
theorem QBlk.set2 {T : TypeId} {g : Nat} {a b c d : Value} {w : World} (h : QBlk T g a b c d w) (v : Value) : QBlk T g a b v d (w.setCell ⟨g, 2, none⟩ v) := QBlk.setCell h 2 v
theorem QBlk.set3 {T : TypeId} {g : Nat} {a b c d : Value} {w : World} (h : QBlk T g a b c d w) (v : Value) : QBlk T g a b c v (w.setCell ⟨g, 3, none⟩ v) := QBlk.setCell h 3 v
theorem QBlk.other {T : TypeId} {g p o : Nat} {a b c d : Value} {w : World} (h : QBlk T g a b c d w) (hne : g ≠ p) (v : Value) : QBlk T g a b c d (w.setCell ⟨p, o, none⟩ v) := (Below.heap_setCell _ _ _ _ hne).trans h
theorem QBlk.grown {T : TypeId} {g p : Nat} {a b c d : Value} {w w' : World} (h : QBlk T g a b c d w) (hg : w.grownBy w' (some p)) (hne : g ≠ p) : QBlk T g a b c d w' := (hg.block g h.lt (by simpa using hne)).trans h
theorem QBlk.below {T : TypeId} {g : Nat} {a b c d : Value} {w w' : World} (h : QBlk T g a b c d w) (hb : Below w.heap.size w w') : QBlk T g a b c d w' := (hb.block g h.lt).trans h
theorem far_ne {G : Nat} {a : Option Addr} (h : ∀ b off, a = some ⟨b, off, none⟩ → G < b) : ∀ b off, a = some ⟨b, off, none⟩ → b ≠ G := fun b off e => Nat.ne_of_gt (h b off e)
theorem far_ne2 {G Y : Nat} {a : Option Addr} (hGY : G < Y) (h : ∀ b off, a = some ⟨b, off, none⟩ → Y < b) : ∀ b off, a = some ⟨b, off, none⟩ → b ≠ G := fun b off e => by have := h b off e; omega
theorem NumsAt.grown {a : Option Addr} {len G : Nat} {zs : List Int} {w w' : World} (h : NumsAt a len zs w) (hg : w.grownBy w' (some G)) (hne : ∀ b off, a = some ⟨b, off, none⟩ → b ≠ G) : NumsAt a len zs w' := by
  refine ⟨h.1, h.2.imp id ?_⟩
  rintro ⟨b, off, ha, hl, hi⟩
  refine ⟨b, off, ha, Nat.lt_of_lt_of_le hl hg.size, fun i hi' => ?_⟩
  exact (World.cell?_of_block (a := ⟨b, off + i, none⟩) (hg.block b hl (by have := hne b off ha; simpa using this))).trans (hi i hi')
/-- The program's datagram is laid. -/
def Fin2 (G Y M : Nat) (e k : Int) (t : ByteArray) (ys : List Int) (w : World) : Prop := ∃ a' c', QBlk 26 G (.int .i64 e) (.int .i64 k) (.slice a' M c') (.string t) w ∧ NumsAt a' M ys w ∧ ∀ b off, a' = some ⟨b, off, none⟩ → Y < b
def R2 (G Y M : Nat) (e k : Int) (t : ByteArray) (ys : List Int) (u v : World) : Prop := u.grownBy v (some G) ∧ (v.heap[G]? = u.heap[G]? ∨ Fin2 G Y M e k t ys v)
theorem R2.refl (G Y M : Nat) (e k : Int) (t : ByteArray) (ys : List Int) (u : World) : R2 G Y M e k t ys u u := ⟨grown_refl _ _, .inl rfl⟩
theorem R2.below {G Y M : Nat} {e k : Int} {t : ByteArray} {ys : List Int} {u v : World} (h : Below u.heap.size u v) (hG : G < u.heap.size) : R2 G Y M e k t ys u v := ⟨⟨h.os, h.tape, h.output, h.size, fun k hk _ => h.block k hk⟩, .inl (h.block G hG)⟩
def OwnOk2 (B G Y M : Nat) (e k : Int) (a : Option Addr) (cap : Nat) (t : ByteArray) (ys : List Int) : Nat → Value → World → Prop
  | 0, u, _ => u = .pointer (some ⟨B, 0, none⟩)
  | 1, u, _ => u = .int .i64 e
  | 2, u, _ => u = .pointer (some ⟨B, 1, none⟩)
  | 3, u, _ => u = .int .i64 k
  | 4, u, w => ∃ g, u = .slice (some ⟨g, 0, none⟩) 0 0 ∧ g < w.heap.size ∧ Y < g
  | 5, u, _ => u = .pointer (some ⟨B, 2, none⟩)
  | 6, u, _ => u = .slice a M cap
  | 7, u, w => ∃ a' c', u = .slice a' M c' ∧ NumsAt a' M ys w ∧ ∀ b off, a' = some ⟨b, off, none⟩ → Y < b
  | 8, u, _ => u = .pointer (some ⟨B, 3, none⟩)
  | 9, u, _ => u = .string t
  | 10, u, w => ∃ a' c', u = .agg #[.int .i64 e, .int .i64 k, .slice a' M c', .string t] ∧ NumsAt a' M ys w ∧ ∀ b off, a' = some ⟨b, off, none⟩ → Y < b
  | 11, u, _ => u = .agg #[.int .i64 e, .int .i64 k, .slice a M cap, .string t]
  | 12, u, w => Fin2 G Y M e k t ys w
  | _, _, _ => True
theorem OwnOk2.keeps {B G Y M : Nat} {e k : Int} {a : Option Addr} {cap : Nat} {t : ByteArray} {ys : List Int} (i : Nat) (u : Value) (w w' : World) (h : OwnOk2 B G Y M e k a cap t ys i u w) (hGY : G < Y) (hb : R2 G Y M e k t ys w w') : OwnOk2 B G Y M e k a cap t ys i u w' := by
  unfold OwnOk2 at h ⊢
  split <;> first | exact True.intro | exact h | skip
  · obtain ⟨g, h1, h2, h3⟩ := h
    exact ⟨g, h1, Nat.lt_of_lt_of_le h2 hb.1.size, h3⟩
  · obtain ⟨a', c', h1, h2, h3⟩ := h
    exact ⟨a', c', h1, h2.grown hb.1 (far_ne2 hGY h3), h3⟩
  · obtain ⟨a', c', h1, h2, h3⟩ := h
    exact ⟨a', c', h1, h2.grown hb.1 (far_ne2 hGY h3), h3⟩
  · rcases hb.2 with hs | hf
    · obtain ⟨a', c', h1, h2, h3⟩ := h
      exact ⟨a', c', hs.trans h1, h2.grown hb.1 (far_ne2 hGY h3), h3⟩
    · exact hf
set_option maxRecDepth 100000 in
set_option maxHeartbeats 4000000 in
theorem own_any (e k : Int) (a : Option Addr) (len cap M : Nat) (d t : ByteArray) (zs ys : List Int) (w : World) (h : NumsIn a len zs w) (hlc : len ≤ cap) (hd : (d.size : Int) ≤ 9223372036854775807) (hcap : (cap : Int) ≤ 9223372036854775807) (ht : t.data.toList = d.data.toList.take 200) (hM : M = min len 66) (hys : ys = zs.take 66) :
    Calls Tryd.prog 10 #[gramV e k a len cap d] w fun en w' => ∃ a1 c1 a2 c2, en = .returned (.tuple #[gramV e k a1 M c1 t, gramV e k a2 M c2 t]) ∧ NumsAt a1 M ys w' ∧ NumsAt a2 M ys w' ∧ Below w.heap.size w w' := by
  unfold gramV
  obtain ⟨w1, hw1⟩ : ∃ w1, ((w.alloc (.cells #[.int .i64 e, .int .i64 k, .slice a len cap, .string d] 24)).alloc (.cells #[.int .i64 0, .int .i64 0, .slice none 0 0, .string ⟨#[]⟩] 26)).alloc (.cells #[.int .i64 0, .int .i64 0, .slice none 0 0, .string ⟨#[]⟩] 24) = w1 := ⟨_, rfl⟩
  obtain ⟨B, hB⟩ : ∃ B, w.heap.size = B := ⟨_, rfl⟩
  have hbW : Below w.heap.size w w1 := by rw [← hw1]; exact (((Below.refl _ _).alloc (Nat.le_refl _) _).alloc (by simp) _).alloc (by simp; omega) _
  have hX : w1.heap[B]? = some (.cells #[.int .i64 e, .int .i64 k, .slice a len cap, .string d] 24 (0, 0)) := by
    rw [← hw1, Below.heap_alloc _ _ _ (by simp; omega), Below.heap_alloc _ _ _ (by simp; omega), ← hB]; exact World.alloc_heap_new _ _
  have hG : w1.heap[B + 1]? = some (.cells #[.int .i64 0, .int .i64 0, .slice none 0 0, .string ⟨#[]⟩] 26 (0, 0)) := by
    rw [← hw1, Below.heap_alloc _ _ _ (by simp; omega), ← hB]
    have := World.alloc_heap_new (w.alloc (.cells #[.int .i64 e, .int .i64 k, .slice a len cap, .string d] 24)) (.cells #[.int .i64 0, .int .i64 0, .slice none 0 0, .string ⟨#[]⟩] 26)
    simpa using this
  have hY : w1.heap[B + 2]? = some (.cells #[.int .i64 0, .int .i64 0, .slice none 0 0, .string ⟨#[]⟩] 24 (0, 0)) := by
    rw [← hw1, ← hB]
    have := World.alloc_heap_new ((w.alloc (.cells #[.int .i64 e, .int .i64 k, .slice a len cap, .string d] 24)).alloc (.cells #[.int .i64 0, .int .i64 0, .slice none 0 0, .string ⟨#[]⟩] 26)) (.cells #[.int .i64 0, .int .i64 0, .slice none 0 0, .string ⟨#[]⟩] 24)
    simpa using this
  have hBl : B + 2 < w1.heap.size := (Array.getElem?_eq_some_iff.1 hY).1
  have c0 : w1.cell? ⟨B, 0, none⟩ = some (.int .i64 e) := by simp [World.cell?, hX]
  have c1 : w1.cell? ⟨B, 1, none⟩ = some (.int .i64 k) := by simp [World.cell?, hX]
  have c2 : w1.cell? ⟨B, 2, none⟩ = some (.slice a len cap) := by simp [World.cell?, hX]
  have c3 : w1.cell? ⟨B, 3, none⟩ = some (.string d) := by simp [World.cell?, hX]
  have HBl : Hid (B < w1.heap.size) := Lib.hid (by omega)
  have HBl2 : Hid (B + 2 < w1.heap.size) := Lib.hid hBl
  have HBe : Hid (w.heap.size = B) := Lib.hid hB
  have hML : M ≤ cap ∧ (M : Int) ≤ 66 ∧ (if (66 : Int) < (len : Int) then (66 : Int) else (len : Int)) = (M : Int) := by
    refine ⟨by omega, by omega, ?_⟩
    split <;> omega
  have HMin := Lib.hid hML.2.2
  have HMc : Hid ((M : Int) ≤ cap) := Lib.hid (by omega)
  have HM : Hid ((M : Int) ≤ 1000000) := Lib.hid (by omega)
  have hnn : NumsIn a M ys w1 := by
    have h1 := h.below hbW
    refine ⟨by rw [hys, List.length_take, ← h1.1]; omega, ?_⟩
    rcases h1.2 with h2 | ⟨b, off, h2, h3, h4⟩
    · left; rw [hys, h2]; rfl
    · refine .inr ⟨b, off, h2, h3, fun i hi => ?_⟩
      have hi' : i < zs.length := by rw [hys, List.length_take] at hi; omega
      have hi6 : i < 66 := by rw [hys, List.length_take] at hi; omega
      rw [h4 i hi', hys]
      simp [hi', hi6]
  have HN : Hid (∀ v, Below w1.heap.size w1 v → NumsIn a M ys v) := Lib.hid fun v hv => hnn.below hv
  have HD := Lib.hid hd
  have HT : Hid (∀ t' : ByteArray, t'.data.toList = d.data.toList.take 200 → t' = t) := Lib.hid fun t' h' => ByteArray.ext (Array.toList_inj.1 (h'.trans ht.symm))
  have HBW := Lib.hid hbW
  have HX := Lib.hid hX
  have HG := Lib.hid hG
  have HY := Lib.hid hY
  have HCap := Lib.hid hcap
  clear h hlc hd ht hM hys hbW hX hG hY hBl hML hnn hcap
  go_enter Tryd.func10, Tryd.ntmps10
  go_wp2_with fail
  clear hw1 hB
  refine R.wp_region_tail 17 (by kernel_rfl) (fun u => Below w1.heap.size w1 u) (fun u v => Below u.heap.size u v) (OwnOk1 B M e k a len cap d t ys) (by rfl) (by kernel_rfl) (by decide) (by kernel_rfl) (by kernel_rfl) (by kernel_rfl) ?hC ?hOk ?hop ?hdone ((Below.refl _ _).drew)
  case hC => exact fun u v h1 h2 => h1.trans (h2.mono h1.size)
  case hOk => exact OwnOk1.keeps
  case hop =>
    refine ⟨?_, ?_, ?_, ?_, ?_, ?_, ?_, ?_, ?_, ?_, ?_, ?_, ?_, ?_, ?_, ?_, ?_, trivial⟩
    · intro z v hz hag hdep
      refine .inl ⟨rfl, fun K hK => ?_⟩
      have d1 : z.tmps.getD 1 undef = .pointer (some ⟨B, 0, none⟩) := hag.2.2 1 (by kernel_rfl)
      have e1 := d1
      rw [Array.getD_eq_getD_getElem?] at e1
      clear hdep hag c0 c1 c2 c3 hz
      go_simp
      exact hK _ _ (Below.refl _ _) rfl
    · intro z v hz hag hdep
      refine .inl ⟨rfl, fun K hK => ?_⟩
      have d4 : z.tmps.getD 4 undef = .pointer (some ⟨B, 0, none⟩) := hdep { on := 0, ground := .data } (by simp) rfl _ _ rfl rfl
      have e4 := d4
      rw [Array.getD_eq_getD_getElem?] at e4
      have hc : v.cell? ⟨B, 0, none⟩ = some (.int .i64 e) := (hz.cell (p := ⟨B, 0, none⟩) HBl.out).trans c0
      clear hdep hag c0 c1 c2 c3 hz
      go_simp
      exact hK _ _ (Below.refl _ _) rfl
    · intro z v hz hag hdep
      refine .inl ⟨rfl, fun K hK => ?_⟩
      have d1 : z.tmps.getD 1 undef = .pointer (some ⟨B, 0, none⟩) := hag.2.2 1 (by kernel_rfl)
      have e1 := d1
      rw [Array.getD_eq_getD_getElem?] at e1
      clear hdep hag c0 c1 c2 c3 hz
      go_simp
      exact hK _ _ (Below.refl _ _) rfl
    · intro z v hz hag hdep
      refine .inl ⟨rfl, fun K hK => ?_⟩
      have d6 : z.tmps.getD 6 undef = .pointer (some ⟨B, 1, none⟩) := hdep { on := 2, ground := .data } (by simp) rfl _ _ rfl rfl
      have e6 := d6
      rw [Array.getD_eq_getD_getElem?] at e6
      have hc : v.cell? ⟨B, 1, none⟩ = some (.int .i64 k) := (hz.cell (p := ⟨B, 1, none⟩) HBl.out).trans c1
      clear hdep hag c0 c1 c2 c3 hz
      go_simp
      exact hK _ _ (Below.refl _ _) rfl
    · intro z v hz hag hdep
      refine .inl ⟨rfl, fun K hK => ?_⟩
      have hBv : B + 2 < v.heap.size := Nat.lt_of_lt_of_le HBl2.out hz.size
      clear hdep hag c0 c1 c2 c3 hz
      go_simp
      exact hK _ _ ((Below.refl _ _).alloc (Nat.le_refl _) _) ⟨_, rfl, by simp, hBv⟩
    · intro z v hz hag hdep
      refine .inl ⟨rfl, fun K hK => ?_⟩
      have d1 : z.tmps.getD 1 undef = .pointer (some ⟨B, 0, none⟩) := hag.2.2 1 (by kernel_rfl)
      have e1 := d1
      rw [Array.getD_eq_getD_getElem?] at e1
      clear hdep hag c0 c1 c2 c3 hz
      go_simp
      exact hK _ _ (Below.refl _ _) rfl
    · intro z v hz hag hdep
      refine .inl ⟨rfl, fun K hK => ?_⟩
      have d9 : z.tmps.getD 9 undef = .pointer (some ⟨B, 2, none⟩) := hdep { on := 5, ground := .data } (by simp) rfl _ _ rfl rfl
      have e9 := d9
      rw [Array.getD_eq_getD_getElem?] at e9
      have hc : v.cell? ⟨B, 2, none⟩ = some (.slice a len cap) := (hz.cell (p := ⟨B, 2, none⟩) HBl.out).trans c2
      clear hdep hag c0 c1 c2 c3 hz
      go_simp
      exact hK _ _ (Below.refl _ _) rfl
    · intro z v hz hag hdep
      refine .inl ⟨rfl, fun K hK => ?_⟩
      have d1 : z.tmps.getD 1 undef = .pointer (some ⟨B, 0, none⟩) := hag.2.2 1 (by kernel_rfl)
      have e1 := d1
      rw [Array.getD_eq_getD_getElem?] at e1
      clear hdep hag c0 c1 c2 c3 hz
      go_simp
      exact hK _ _ (Below.refl _ _) rfl
    · intro z v hz hag hdep
      refine .inl ⟨rfl, fun K hK => ?_⟩
      have d11 : z.tmps.getD 11 undef = .pointer (some ⟨B, 2, none⟩) := hdep { on := 7, ground := .data } (by simp) rfl _ _ rfl rfl
      have e11 := d11
      rw [Array.getD_eq_getD_getElem?] at e11
      have hc : v.cell? ⟨B, 2, none⟩ = some (.slice a len cap) := (hz.cell (p := ⟨B, 2, none⟩) HBl.out).trans c2
      clear hdep hag c0 c1 c2 c3 hz
      go_simp
      exact hK _ _ (Below.refl _ _) rfl
    · intro z v hz hag hdep
      refine .inl ⟨rfl, fun K hK => ?_⟩
      have d12 : z.tmps.getD 12 undef = .slice a len cap := hdep { on := 8, ground := .data } (by simp) rfl _ _ rfl rfl
      have e12 := d12
      rw [Array.getD_eq_getD_getElem?] at e12
      clear hdep hag c0 c1 c2 c3 hz
      go_simp
      exact hK _ _ (Below.refl _ _) rfl
    · intro z v hz hag hdep
      refine .inl ⟨rfl, fun K hK => ?_⟩
      have d13 : z.tmps.getD 13 undef = .int .i64 (len : Int) := hdep { on := 9, ground := .data } (by simp) rfl _ _ rfl rfl
      have e13 := d13
      rw [Array.getD_eq_getD_getElem?] at e13
      clear hdep hag c0 c1 c2 c3 hz
      go_simp
      rw [HMin.out]
      exact hK _ _ (Below.refl _ _) rfl
    · intro z v hz hag hdep
      refine .inl ⟨rfl, fun K hK => ?_⟩
      have d10 : z.tmps.getD 10 undef = .slice a len cap := hdep { on := 6, ground := .data } (by simp) rfl _ _ rfl rfl
      have e10 := d10
      rw [Array.getD_eq_getD_getElem?] at e10
      have d14 : z.tmps.getD 14 undef = .int .i64 (M : Int) := hdep { on := 10, ground := .data } (by simp) rfl _ _ rfl rfl
      have e14 := d14
      rw [Array.getD_eq_getD_getElem?] at e14
      have hmc := HMc.out
      clear hdep hag c0 c1 c2 c3 hz
      go_simp
      exact hK _ _ (Below.refl _ _) rfl
    · intro z v hz hag hdep
      refine .inl ⟨rfl, fun K hK => ?_⟩
      have d8' : OwnOk1 B M e k a len cap d t ys 4 (z.tmps.getD 8 undef) v := hdep { on := 4, ground := .data } (by simp) rfl _ _ rfl rfl
      simp only [OwnOk1] at d8'
      obtain ⟨g8, d8, hg8, hh8⟩ := d8'
      have e8 := d8
      rw [Array.getD_eq_getD_getElem?] at e8
      have d15 : z.tmps.getD 15 undef = .slice a M cap := hdep { on := 11, ground := .data } (by simp) rfl _ _ rfl rfl
      have e15 := d15
      rw [Array.getD_eq_getD_getElem?] at e15
      have hN := HN.out v hz
      have hBv : B + 2 < v.heap.size := Nat.lt_of_lt_of_le HBl2.out hz.size
      clear hdep hag c0 c1 c2 c3 hz
      refine wp_append (.tmp 8) (.tmp 15) rfl rfl g8 a M cap ys v (by simpa [Act.eval] using e8) (by simpa [Act.eval] using e15) hN hg8 HM.out fun a' c' v' h1 h3 h2 => ?_
      exact hK _ _ h2 ⟨a', c', rfl, h1, fun b off e => by rcases h3 b off e with h | h <;> omega⟩
    · intro z v hz hag hdep
      refine .inl ⟨rfl, fun K hK => ?_⟩
      have d1 : z.tmps.getD 1 undef = .pointer (some ⟨B, 0, none⟩) := hag.2.2 1 (by kernel_rfl)
      have e1 := d1
      rw [Array.getD_eq_getD_getElem?] at e1
      clear hdep hag c0 c1 c2 c3 hz
      go_simp
      exact hK _ _ (Below.refl _ _) rfl
    · intro z v hz hag hdep
      refine .inl ⟨rfl, fun K hK => ?_⟩
      have d17 : z.tmps.getD 17 undef = .pointer (some ⟨B, 3, none⟩) := hdep { on := 13, ground := .data } (by simp) rfl _ _ rfl rfl
      have e17 := d17
      rw [Array.getD_eq_getD_getElem?] at e17
      have hc : v.cell? ⟨B, 3, none⟩ = some (.string d) := (hz.cell (p := ⟨B, 3, none⟩) HBl.out).trans c3
      clear hdep hag c0 c1 c2 c3 hz
      go_simp
      exact hK _ _ (Below.refl _ _) rfl
    · intro z v hz hag hdep
      refine .inl ⟨rfl, fun K hK => ?_⟩
      have d18 : z.tmps.getD 18 undef = .string d := hdep { on := 14, ground := .data } (by simp) rfl _ _ rfl rfl
      have e18 := d18
      rw [Array.getD_eq_getD_getElem?] at e18
      clear hdep hag c0 c1 c2 c3 hz
      go_simp
      refine (cut_any d 200 HD.out (by decide) _).mono ?_
      rintro en w' ⟨⟨t', rfl, _, htl⟩, rfl⟩
      obtain rfl : t' = t := HT.out t' htl
      exact hK _ _ (Below.refl _ _) rfl
    · intro z v hz hag hdep
      refine .inl ⟨rfl, fun K hK => ?_⟩
      have d5 : z.tmps.getD 5 undef = .int .i64 e := hdep { on := 1, ground := .data } (by simp) rfl _ _ rfl rfl
      have e5 := d5
      rw [Array.getD_eq_getD_getElem?] at e5
      have d7 : z.tmps.getD 7 undef = .int .i64 k := hdep { on := 3, ground := .data } (by simp) rfl _ _ rfl rfl
      have e7 := d7
      rw [Array.getD_eq_getD_getElem?] at e7
      have d16' : OwnOk1 B M e k a len cap d t ys 12 (z.tmps.getD 16 undef) v := hdep { on := 12, ground := .data } (by simp) rfl _ _ rfl rfl
      simp only [OwnOk1] at d16'
      obtain ⟨a16, c16, d16, hN16, hf16⟩ := d16'
      have e16 := d16
      rw [Array.getD_eq_getD_getElem?] at e16
      have d19 : z.tmps.getD 19 undef = .string t := hdep { on := 15, ground := .data } (by simp) rfl _ _ rfl rfl
      have e19 := d19
      rw [Array.getD_eq_getD_getElem?] at e19
      clear hdep hag c0 c1 c2 c3 hz
      go_simp
      exact hK _ _ (Below.refl _ _) ⟨_, _, rfl, hN16, hf16⟩
  case hdone =>
    intro z v hz hag hok hno
    clear hno
    obtain ⟨a1, c1', d20, hN1, hl1⟩ : ∃ a' c', z.tmps.getD 20 undef = .agg #[.int .i64 e, .int .i64 k, .slice a' M c', .string t] ∧ NumsAt a' M ys v ∧ ∀ b off, a' = some ⟨b, off, none⟩ → B + 2 < b := hok 16 _ 20 (by decide) rfl rfl
    have d1 : z.tmps.getD 1 undef = .pointer (some ⟨B, 0, none⟩) := hag.2.2 1 (by kernel_rfl)
    have d2 : z.tmps.getD 2 undef = .pointer (some ⟨B + 1, 0, none⟩) := hag.2.2 2 (by kernel_rfl)
    have d3 : z.tmps.getD 3 undef = .pointer (some ⟨B + 2, 0, none⟩) := hag.2.2 3 (by kernel_rfl)
    obtain ⟨u, hu, hzz⟩ := frame33 z hag.2.1 hag.1
    have e1 : u 1 = .pointer (some ⟨B, 0, none⟩) := (hu 1).trans d1
    have e2 : u 2 = .pointer (some ⟨B + 1, 0, none⟩) := (hu 2).trans d2
    have e3 : u 3 = .pointer (some ⟨B + 2, 0, none⟩) := (hu 3).trans d3
    have e20 : u 20 = .agg #[.int .i64 e, .int .i64 k, .slice a1 M c1', .string t] := (hu 20).trans d20
    subst hzz
    clear d1 d2 d3 d20 hag hok hu c0 c1 c2 c3
    have x0 : QBlk 24 B (.int .i64 e) (.int .i64 k) (.slice a len cap) (.string d) v := QBlk.below (w := w1) HX.out hz
    have y0 : QBlk 24 (B + 2) (.int .i64 0) (.int .i64 0) (.slice none 0 0) (.string ⟨#[]⟩) v := QBlk.below (w := w1) HY.out hz
    have z0 : QBlk 26 (B + 1) (.int .i64 0) (.int .i64 0) (.slice none 0 0) (.string ⟨#[]⟩) v := QBlk.below (w := w1) HG.out hz
    have c0 := x0.c0
    have c1 := x0.c1
    have c2 := x0.c2
    have c3 := x0.c3
    have q0 := x0.fr 0
    have q1 := x0.fr 1
    have q2 := x0.fr 2
    have q3 := x0.fr 3
    have HX0 := Lib.hid x0
    have HY0 := Lib.hid y0
    have HZ0 := Lib.hid z0
    have HZ := Lib.hid hz
    have HN1 := Lib.hid hN1
    clear x0 y0 z0 hz hN1
    dsimp only [List.drop]
    go_wp2_with fail
    obtain ⟨w2, hw2⟩ : ∃ w2, (((v.setCell ⟨B, 0, none⟩ (.int .i64 e)).setCell ⟨B, 1, none⟩ (.int .i64 k)).setCell ⟨B, 2, none⟩ (.slice a1 M c1')).setCell ⟨B, 3, none⟩ (.string t) = w2 := ⟨_, rfl⟩
    rw [hw2]
    have hg2 : v.grownBy w2 (some B) := by rw [← hw2]; exact grown_trans (grown_trans (grown_trans (grown_set _ _ _ _) (grown_set _ _ _ _)) (grown_set _ _ _ _)) (grown_set _ _ _ _)
    have x2 : QBlk 24 B (.int .i64 e) (.int .i64 k) (.slice a1 M c1') (.string t) w2 := by rw [← hw2]; exact (((HX0.out.set0 _).set1 _).set2 _).set3 _
    have y2 : QBlk 24 (B + 2) (.int .i64 0) (.int .i64 0) (.slice none 0 0) (.string ⟨#[]⟩) w2 := HY0.out.grown hg2 (by omega)
    have z2 : QBlk 26 (B + 1) (.int .i64 0) (.int .i64 0) (.slice none 0 0) (.string ⟨#[]⟩) w2 := HZ0.out.grown hg2 (by omega)
    have hf1 : ∀ b off, a1 = some ⟨b, off, none⟩ → B < b := fun b off e => by have := hl1 b off e; omega
    have hn2 : NumsAt a1 M ys w2 := HN1.out.grown hg2 (far_ne hf1)
    have hB2 : Below w.heap.size w w2 := (HBW.out.trans (HZ.out.mono HBW.out.size)).grown hg2 (Nat.le_trans HBW.out.size HZ.out.size) (fun k e => by cases e; rw [HBe.out]; exact Nat.le_refl _)
    have hG0 : B + 1 = B + 1 := rfl
    obtain ⟨G, hGe⟩ : ∃ G, B + 1 = G := ⟨_, rfl⟩
    obtain ⟨Y, hYe⟩ : ∃ Y, B + 2 = Y := ⟨_, rfl⟩
    rw [hGe] at z2 e2
    rw [hYe] at y2 e3
    have HNE : Hid (B ≠ G ∧ B ≠ Y ∧ G ≠ Y ∧ w.heap.size ≤ G ∧ w.heap.size ≤ Y ∧ G < Y) := Lib.hid (by rw [HBe.out]; omega)
    have HLim : Hid (∀ b off, a1 = some ⟨b, off, none⟩ → Y < b) := Lib.hid (fun b off e => by rw [← hYe]; exact hl1 b off e)
    clear q0 q1 q2 q3 c0 c1 c2 c3 hw2 HX0 HY0 HZ0 HX HG HY HN HMin HMc HD HT HCap HN1 hg2 hf1 hl1 HBl HZ HBW HBe hG0 hGe hYe
    clear zs d len cap a
    obtain ⟨a, rfl⟩ : ∃ a, a = a1 := ⟨_, rfl⟩
    obtain ⟨cap, rfl⟩ : ∃ cap, cap = c1' := ⟨_, rfl⟩
    have E1x := e1
    have E2x := e2
    have c0 := x2.c0
    have c1 := x2.c1
    have c2 := x2.c2
    have c3 := x2.c3
    have HBl : Hid (B < w2.heap.size) := Lib.hid x2.lt
    have HGl : Hid (G < w2.heap.size) := Lib.hid z2.lt
    have HYl : Hid (Y < w2.heap.size) := Lib.hid y2.lt
    have HGY : Hid (G < Y) := Lib.hid HNE.out.2.2.2.2.2
    have HBG : Hid (some B ≠ some G) := Lib.hid (by have := HNE.out.1; simpa using this)
    have HN : Hid (∀ v', w2.grownBy v' (some G) → NumsIn a M ys v') := Lib.hid fun v' hv => (hn2.grown hv (fun b off e => by have := HLim.out b off e; have := HNE.out; omega)).numsIn
    have HZ2 := Lib.hid z2
    have HY2 := Lib.hid y2
    have HN2 := Lib.hid hn2
    have HB2 := Lib.hid hB2
    clear x2 y2 z2 hn2 hB2
    refine R.wp_region_tail 13 (by kernel_rfl) (fun u => w2.grownBy u (some G) ∧ ∃ x0 x1 x2 x3, QBlk 26 G x0 x1 x2 x3 u) (R2 G Y M e k t ys) (OwnOk2 B G Y M e k a cap t ys) (by rfl) (by kernel_rfl) (by decide) (by kernel_rfl) (by kernel_rfl) (by kernel_rfl) ?hC ?hOk ?hop ?hdone ⟨⟨rfl, rfl, rfl, Nat.le_refl _, fun _ _ _ => rfl⟩, _, _, _, _, HZ2.out⟩
    case hC => exact fun u v h1 h2 => ⟨grown_trans h1.1 h2.1, by
      rcases h2.2 with h | h
      · obtain ⟨x0, x1, x2, x3, hx⟩ := h1.2
        exact ⟨x0, x1, x2, x3, h.trans hx⟩
      · obtain ⟨a', c', h3, _⟩ := h
        exact ⟨_, _, _, _, h3⟩⟩
    case hOk => exact fun i u w w' h hb => OwnOk2.keeps i u w w' h HGY.out hb
    case hop =>
      refine ⟨?_, ?_, ?_, ?_, ?_, ?_, ?_, ?_, ?_, ?_, ?_, ?_, ?_, trivial⟩
      · intro z v hz hag hdep
        refine .inl ⟨rfl, fun K hK => ?_⟩
        have d1 : z.tmps.getD 1 undef = .pointer (some ⟨B, 0, none⟩) := (hag.2.2 1 (by kernel_rfl)).trans E1x
        have e1 := d1
        rw [Array.getD_eq_getD_getElem?] at e1
        clear hdep hag c0 c1 c2 c3 hz
        go_simp
        exact hK _ _ (R2.refl _ _ _ _ _ _ _ _) rfl
      · intro z v hz hag hdep
        refine .inl ⟨rfl, fun K hK => ?_⟩
        have d21 : z.tmps.getD 21 undef = .pointer (some ⟨B, 0, none⟩) := hdep { on := 0, ground := .data } (by simp) rfl _ _ rfl rfl
        have e21 := d21
        rw [Array.getD_eq_getD_getElem?] at e21
        have hc : v.cell? ⟨B, 0, none⟩ = some (.int .i64 e) := (World.cell?_of_block (hz.1.block B HBl.out HBG.out)).trans c0
        clear hdep hag c0 c1 c2 c3 hz
        go_simp
        exact hK _ _ (R2.refl _ _ _ _ _ _ _ _) rfl
      · intro z v hz hag hdep
        refine .inl ⟨rfl, fun K hK => ?_⟩
        have d1 : z.tmps.getD 1 undef = .pointer (some ⟨B, 0, none⟩) := (hag.2.2 1 (by kernel_rfl)).trans E1x
        have e1 := d1
        rw [Array.getD_eq_getD_getElem?] at e1
        clear hdep hag c0 c1 c2 c3 hz
        go_simp
        exact hK _ _ (R2.refl _ _ _ _ _ _ _ _) rfl
      · intro z v hz hag hdep
        refine .inl ⟨rfl, fun K hK => ?_⟩
        have d23 : z.tmps.getD 23 undef = .pointer (some ⟨B, 1, none⟩) := hdep { on := 2, ground := .data } (by simp) rfl _ _ rfl rfl
        have e23 := d23
        rw [Array.getD_eq_getD_getElem?] at e23
        have hc : v.cell? ⟨B, 1, none⟩ = some (.int .i64 k) := (World.cell?_of_block (hz.1.block B HBl.out HBG.out)).trans c1
        clear hdep hag c0 c1 c2 c3 hz
        go_simp
        exact hK _ _ (R2.refl _ _ _ _ _ _ _ _) rfl
      · intro z v hz hag hdep
        refine .inl ⟨rfl, fun K hK => ?_⟩
        have hGv : G < v.heap.size := Nat.lt_of_lt_of_le HGl.out hz.1.size
        have hYv : Y < v.heap.size := Nat.lt_of_lt_of_le HYl.out hz.1.size
        clear hdep hag c0 c1 c2 c3 hz
        go_simp
        exact hK _ _ (R2.below ((Below.refl _ _).alloc (Nat.le_refl _) _) hGv) ⟨_, rfl, by simp, hYv⟩
      · intro z v hz hag hdep
        refine .inl ⟨rfl, fun K hK => ?_⟩
        have d1 : z.tmps.getD 1 undef = .pointer (some ⟨B, 0, none⟩) := (hag.2.2 1 (by kernel_rfl)).trans E1x
        have e1 := d1
        rw [Array.getD_eq_getD_getElem?] at e1
        clear hdep hag c0 c1 c2 c3 hz
        go_simp
        exact hK _ _ (R2.refl _ _ _ _ _ _ _ _) rfl
      · intro z v hz hag hdep
        refine .inl ⟨rfl, fun K hK => ?_⟩
        have d26 : z.tmps.getD 26 undef = .pointer (some ⟨B, 2, none⟩) := hdep { on := 5, ground := .data } (by simp) rfl _ _ rfl rfl
        have e26 := d26
        rw [Array.getD_eq_getD_getElem?] at e26
        have hc : v.cell? ⟨B, 2, none⟩ = some (.slice a M cap) := (World.cell?_of_block (hz.1.block B HBl.out HBG.out)).trans c2
        clear hdep hag c0 c1 c2 c3 hz
        go_simp
        exact hK _ _ (R2.refl _ _ _ _ _ _ _ _) rfl
      · intro z v hz hag hdep
        refine .inl ⟨rfl, fun K hK => ?_⟩
        have d25' : OwnOk2 B G Y M e k a cap t ys 4 (z.tmps.getD 25 undef) v := hdep { on := 4, ground := .data } (by simp) rfl _ _ rfl rfl
        simp only [OwnOk2] at d25'
        obtain ⟨g25, d25, hg25, hh25⟩ := d25'
        have e25 := d25
        rw [Array.getD_eq_getD_getElem?] at e25
        have d27 : z.tmps.getD 27 undef = .slice a M cap := hdep { on := 6, ground := .data } (by simp) rfl _ _ rfl rfl
        have e27 := d27
        rw [Array.getD_eq_getD_getElem?] at e27
        have hN := HN.out v hz.1
        have hGv : G < v.heap.size := Nat.lt_of_lt_of_le HGl.out hz.1.size
        have hYv : Y < v.heap.size := Nat.lt_of_lt_of_le HYl.out hz.1.size
        clear hdep hag c0 c1 c2 c3 hz
        refine wp_append (.tmp 25) (.tmp 27) rfl rfl g25 a M cap ys v (by simpa [Act.eval] using e25) (by simpa [Act.eval] using e27) hN hg25 HM.out fun a' c' v' h1 h3 h2 => ?_
        exact hK _ _ (R2.below h2 hGv) ⟨a', c', rfl, h1, fun b off e => by rcases h3 b off e with h | h <;> omega⟩
      · intro z v hz hag hdep
        refine .inl ⟨rfl, fun K hK => ?_⟩
        have d1 : z.tmps.getD 1 undef = .pointer (some ⟨B, 0, none⟩) := (hag.2.2 1 (by kernel_rfl)).trans E1x
        have e1 := d1
        rw [Array.getD_eq_getD_getElem?] at e1
        clear hdep hag c0 c1 c2 c3 hz
        go_simp
        exact hK _ _ (R2.refl _ _ _ _ _ _ _ _) rfl
      · intro z v hz hag hdep
        refine .inl ⟨rfl, fun K hK => ?_⟩
        have d29 : z.tmps.getD 29 undef = .pointer (some ⟨B, 3, none⟩) := hdep { on := 8, ground := .data } (by simp) rfl _ _ rfl rfl
        have e29 := d29
        rw [Array.getD_eq_getD_getElem?] at e29
        have hc : v.cell? ⟨B, 3, none⟩ = some (.string t) := (World.cell?_of_block (hz.1.block B HBl.out HBG.out)).trans c3
        clear hdep hag c0 c1 c2 c3 hz
        go_simp
        exact hK _ _ (R2.refl _ _ _ _ _ _ _ _) rfl
      · intro z v hz hag hdep
        refine .inl ⟨rfl, fun K hK => ?_⟩
        have d22 : z.tmps.getD 22 undef = .int .i64 e := hdep { on := 1, ground := .data } (by simp) rfl _ _ rfl rfl
        have e22 := d22
        rw [Array.getD_eq_getD_getElem?] at e22
        have d24 : z.tmps.getD 24 undef = .int .i64 k := hdep { on := 3, ground := .data } (by simp) rfl _ _ rfl rfl
        have e24 := d24
        rw [Array.getD_eq_getD_getElem?] at e24
        have d28' : OwnOk2 B G Y M e k a cap t ys 7 (z.tmps.getD 28 undef) v := hdep { on := 7, ground := .data } (by simp) rfl _ _ rfl rfl
        simp only [OwnOk2] at d28'
        obtain ⟨a28, c28, d28, hN28, hf28⟩ := d28'
        have e28 := d28
        rw [Array.getD_eq_getD_getElem?] at e28
        have d30 : z.tmps.getD 30 undef = .string t := hdep { on := 9, ground := .data } (by simp) rfl _ _ rfl rfl
        have e30 := d30
        rw [Array.getD_eq_getD_getElem?] at e30
        clear hdep hag c0 c1 c2 c3 hz
        go_simp
        exact hK _ _ (R2.refl _ _ _ _ _ _ _ _) ⟨_, _, rfl, hN28, hf28⟩
      · intro z v hz hag hdep
        refine .inl ⟨rfl, fun K hK => ?_⟩
        have d1 : z.tmps.getD 1 undef = .pointer (some ⟨B, 0, none⟩) := (hag.2.2 1 (by kernel_rfl)).trans E1x
        have e1 := d1
        rw [Array.getD_eq_getD_getElem?] at e1
        have hc0 : v.cell? ⟨B, 0, none⟩ = some (.int .i64 e) := (World.cell?_of_block (hz.1.block B HBl.out HBG.out)).trans c0
        have hc1 : v.cell? ⟨B, 1, none⟩ = some (.int .i64 k) := (World.cell?_of_block (hz.1.block B HBl.out HBG.out)).trans c1
        have hc2 : v.cell? ⟨B, 2, none⟩ = some (.slice a M cap) := (World.cell?_of_block (hz.1.block B HBl.out HBG.out)).trans c2
        have hc3 : v.cell? ⟨B, 3, none⟩ = some (.string t) := (World.cell?_of_block (hz.1.block B HBl.out HBG.out)).trans c3
        clear hdep hag c0 c1 c2 c3 hz
        go_simp
        exact hK _ _ (R2.refl _ _ _ _ _ _ _ _) rfl
      · intro z v hz hag hdep
        refine .inl ⟨rfl, fun K hK => ?_⟩
        have d2 : z.tmps.getD 2 undef = .pointer (some ⟨G, 0, none⟩) := (hag.2.2 2 (by kernel_rfl)).trans E2x
        have e2 := d2
        rw [Array.getD_eq_getD_getElem?] at e2
        have d31' : OwnOk2 B G Y M e k a cap t ys 10 (z.tmps.getD 31 undef) v := hdep { on := 10, ground := .data } (by simp) rfl _ _ rfl rfl
        simp only [OwnOk2] at d31'
        obtain ⟨a31, c31, d31, hN31, hf31⟩ := d31'
        have e31 := d31
        rw [Array.getD_eq_getD_getElem?] at e31
        obtain ⟨x0, x1, x2, x3, hG⟩ := hz.2
        have f0 := hG.c0
        have f1 := hG.c1
        have f2 := hG.c2
        have f3 := hG.c3
        have q0 := hG.fr 0
        have q1 := hG.fr 1
        have q2 := hG.fr 2
        have q3 := hG.fr 3
        have HGv := Lib.hid hG
        have HN31 := Lib.hid hN31
        have HF31 := Lib.hid hf31
        clear hdep hag hG hN31 hf31 c0 c1 c2 c3 hz
        go_simp
        have hfin : Fin2 G Y M e k t ys _ := ⟨a31, c31, (((HGv.out.set0 (.int .i64 e)).set1 (.int .i64 k)).set2 (.slice a31 M c31)).set3 (.string t), (((HN31.out.set (far_ne2 HGY.out HF31.out) _).set (far_ne2 HGY.out HF31.out) _).set (far_ne2 HGY.out HF31.out) _).set (far_ne2 HGY.out HF31.out) _, HF31.out⟩
        exact hK undef _ ⟨grown_trans (grown_trans (grown_trans (grown_set _ _ _ _) (grown_set _ _ _ _)) (grown_set _ _ _ _)) (grown_set _ _ _ _), .inr hfin⟩ hfin
    case hdone =>
      intro z v hz hag hok hno
      obtain ⟨_, a2, c2', hb2, hn2, hf2⟩ : ∃ v', OwnOk2 B G Y M e k a cap t ys 12 v' v := hno 12 _ (by decide) rfl
      have d32 : z.tmps.getD 32 undef = .agg #[.int .i64 e, .int .i64 k, .slice a M cap, .string t] := hok 11 _ 32 (by decide) rfl rfl
      have d2 : z.tmps.getD 2 undef = .pointer (some ⟨G, 0, none⟩) := (hag.2.2 2 (by kernel_rfl)).trans E2x
      have d3 : z.tmps.getD 3 undef = .pointer (some ⟨Y, 0, none⟩) := (hag.2.2 3 (by kernel_rfl)).trans e3
      obtain ⟨u', hu', hzz⟩ := frame33 z hag.2.1 hag.1
      have f2 : u' 2 = .pointer (some ⟨G, 0, none⟩) := (hu' 2).trans d2
      have f3 : u' 3 = .pointer (some ⟨Y, 0, none⟩) := (hu' 3).trans d3
      have f32 : u' 32 = .agg #[.int .i64 e, .int .i64 k, .slice a M cap, .string t] := (hu' 32).trans d32
      subst hzz
      have y3 : QBlk 24 Y (.int .i64 0) (.int .i64 0) (.slice none 0 0) (.string ⟨#[]⟩) v := HY2.out.grown hz.1 (by have := HNE.out; omega)
      have hn3 : NumsAt a M ys v := HN2.out.grown hz.1 (fun b off e => by have := HLim.out b off e; have := HNE.out; omega)
      have hB3 : Below w.heap.size w v := HB2.out.grown hz.1 HB2.out.size (fun k e => by cases e; exact HNE.out.2.2.2.1)
      have q0 := y3.fr 0
      have q1 := y3.fr 1
      have q2 := y3.fr 2
      have q3 := y3.fr 3
      have k0 := y3.c0
      have k1 := y3.c1
      have k2 := y3.c2
      have k3 := y3.c3
      have g0 := hb2.c0
      have g1 := hb2.c1
      have g2 := hb2.c2
      have g3 := hb2.c3
      have hGY : G ≠ Y := HNE.out.2.2.1
      have HFin : Hid (NumsAt a2 M ys ((((v.setCell ⟨Y, 0, none⟩ (.int .i64 e)).setCell ⟨Y, 1, none⟩ (.int .i64 k)).setCell ⟨Y, 2, none⟩ (.slice a M cap)).setCell ⟨Y, 3, none⟩ (.string t)) ∧ NumsAt a M ys ((((v.setCell ⟨Y, 0, none⟩ (.int .i64 e)).setCell ⟨Y, 1, none⟩ (.int .i64 k)).setCell ⟨Y, 2, none⟩ (.slice a M cap)).setCell ⟨Y, 3, none⟩ (.string t)) ∧ Below w.heap.size w ((((v.setCell ⟨Y, 0, none⟩ (.int .i64 e)).setCell ⟨Y, 1, none⟩ (.int .i64 k)).setCell ⟨Y, 2, none⟩ (.slice a M cap)).setCell ⟨Y, 3, none⟩ (.string t))) := Lib.hid (by
        have hy : w.heap.size ≤ Y := HNE.out.2.2.2.2.1
        have hne1 : ∀ b off, a = some ⟨b, off, none⟩ → b ≠ Y := fun b off e => Nat.ne_of_gt (HLim.out b off e)
        have hne2 : ∀ b off, a2 = some ⟨b, off, none⟩ → b ≠ Y := fun b off e => Nat.ne_of_gt (hf2 b off e)
        exact ⟨(((hn2.set hne2 _).set hne2 _).set hne2 _).set hne2 _, (((hn3.set hne1 _).set hne1 _).set hne1 _).set hne1 _, ((((hB3.setCell (p := ⟨Y, 0, none⟩) hy _).setCell (p := ⟨Y, 1, none⟩) hy _).setCell (p := ⟨Y, 2, none⟩) hy _).setCell (p := ⟨Y, 3, none⟩) hy _)⟩)
      have HY3 := Lib.hid y3
      have HG3 := Lib.hid hb2
      clear y3 hn3 hB3 hb2 hn2 hf2 hz hag hok hno d32 d2 d3 hu' c0 c1 c2 c3 E1x E2x e1 e2 e3 HZ2 HY2 HN2 HB2
      dsimp only [List.drop]
      go_wp2
      clear g0 g1 g2 g3 k0 k1 k2 k3 q0 q1 q2 q3
      obtain ⟨w4, hw4⟩ : ∃ w4, ((((v.setCell ⟨Y, 0, none⟩ (.int .i64 e)).setCell ⟨Y, 1, none⟩ (.int .i64 k)).setCell ⟨Y, 2, none⟩ (.slice a M cap)).setCell ⟨Y, 3, none⟩ (.string t)) = w4 := ⟨_, rfl⟩
      have y4 : QBlk 24 Y (.int .i64 e) (.int .i64 k) (.slice a M cap) (.string t) w4 := by rw [← hw4]; exact (((HY3.out.set0 _).set1 _).set2 _).set3 _
      have g4 : QBlk 26 G (.int .i64 e) (.int .i64 k) (.slice a2 M c2') (.string t) w4 := by rw [← hw4]; exact (((HG3.out.other hGY _).other hGY _).other hGY _).other hGY _
      have hFin := HFin.out
      rw [hw4] at hFin ⊢
      have k0 := y4.c0
      have k1 := y4.c1
      have k2 := y4.c2
      have k3 := y4.c3
      have g0 := g4.c0
      have g1 := g4.c1
      have g2 := g4.c2
      have g3 := g4.c3
      refine bodyPost_ret (v := .tuple #[.agg #[.int .i64 e, .int .i64 k, .slice a2 M c2', .string t], .agg #[.int .i64 e, .int .i64 k, .slice a M cap, .string t]]) (by rw [results_cell_cell rfl]; go_simp) rfl ?_
      exact ⟨a2, c2', a, cap, rfl, hFin⟩
end Go.Proofs.YtghnkpfnpidncaaDoor.G
