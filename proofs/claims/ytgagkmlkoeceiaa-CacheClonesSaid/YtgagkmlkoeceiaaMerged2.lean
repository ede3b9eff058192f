/- cache: ring, New, Len. -/
import Derived.Test.YtgagkmlkoeceiaaCJn
import Derived.WalkMore
namespace Go.Proofs.Ytgagkmlkoeceiaa.C
open Go.RowKit Go.Maps Go.Proofs.Ytgagkmlkoeceiaa.H

/-- the cache of block c -/
def Ch (c : Nat) (M G : List Nat) (x : Ca) (w : World) : Prop := ∃ m e ns, ChAt c m e M G x.most ns w ∧ ns.map (fun y => (y.i, y.g)) = x.L ∧ (x.L.length ≤ x.most ∧ 1 ≤ x.most ∧ x.most ≤ 65536)
theorem Ch.below {c : Nat} {M G : List Nat} {x : Ca} {w w' : World} (h : Ch c M G x w) (hb : Below w.heap.size w w') : Ch c M G x w' := by
  obtain ⟨m, e, ns, h, h2⟩ := h
  exact ⟨m, e, ns, h.below hb, h2⟩
theorem Ch.keptB {c : Nat} {M G L : List Nat} {x : Ca} {w w' : World} (h : Ch c M G x w) (hb : KeepB L w w') (h1 : ∀ p ∈ M, p ∉ L) (h2 : ∀ p ∈ G, p ∉ L) : Ch c M G x w' := by
  obtain ⟨m, e, ns, h, h3⟩ := h
  exact ⟨m, e, ns, h.keptB hb h1 h2, h3⟩
theorem Ch.lt {c : Nat} {M G : List Nat} {x : Ca} {w : World} (h : Ch c M G x w) : (∀ p ∈ M, p < w.heap.size) ∧ ∀ p ∈ G, p ∉ M ∧ p < w.heap.size := by
  obtain ⟨m, e, ns, h, -⟩ := h
  exact ⟨h.lt, h.apart⟩
def mostN (z : Int) : Nat := (min (max z 1) 65536).toNat
/-- a ring without lines comes back -/
def RingPost (w : World) (r : Ending) (w' : World) : Prop := ∃ e : Nat, r = .returned (.pointer (some ⟨e, 0, none⟩)) ∧ IsLine e w' ∧ Links w' [e, e] ∧ Below w.heap.size w w' ∧ w.heap.size ≤ e
theorem ring_post (w : World) : RingPost w (.returned (.pointer (some ⟨w.heap.size, 0, none⟩))) (w.alloc (.cells #[.int .i64 0, .slice none 0 0, .pointer (some ⟨w.heap.size, 0, none⟩), .pointer (some ⟨w.heap.size, 0, none⟩)] 72)) := by
  have h0 := heap_alloc_new w (.cells #[.int .i64 0, .slice none 0 0, .pointer (some ⟨w.heap.size, 0, none⟩), .pointer (some ⟨w.heap.size, 0, none⟩)] 72)
  exact ⟨_, rfl, ⟨_, h0, rfl⟩, ⟨by unfold NextIs; rw [cell_block h0]; rfl, by unfold PrevIs; rw [cell_block h0]; rfl, trivial⟩, (Below.refl _ _).alloc (Nat.le_refl _) _, Nat.le_refl _⟩
set_option maxRecDepth 100000 in
set_option maxHeartbeats 4000000 in
theorem ring_any (w : World) : Calls Try.prog 14 #[] w (RingPost w) := by
  have HP := Lib.hid (ring_post w)
  go_enter Try.func14, Try.ntmps14
  go_wp2
  refine bodyPost_ret (v := .pointer (some ⟨w.heap.size, 0, none⟩)) ?_ rfl HP.out
  simp [results, Try.f14]
theorem mostN_run (z : Int) : ((mostN z : Nat) : Int) = min (max z 1) 65536 := by unfold mostN; omega
/-- a cache without lines comes back -/
def NewPost (z : Int) (w : World) (r : Ending) (w' : World) : Prop := ∃ c M, r = .returned (.pointer (some ⟨c, 0, none⟩)) ∧ Ch c M [] ⟨mostN z, []⟩ w' ∧ Below w.heap.size w w' ∧ ∀ p ∈ M, w.heap.size ≤ p
theorem new_post {z : Int} {w w1 w2 : World} {e : Nat} (h1 : w1 = w.alloc (.map #[] 0)) (hl : IsLine e w2) (hk : Links w2 [e, e]) (hb : Below w1.heap.size w1 w2) (he : w1.heap.size ≤ e) :
    NewPost z w (.returned (.pointer (some ⟨w2.heap.size, 0, none⟩))) (w2.alloc (.cells #[.int .i64 (mostN z : Int), .map (some w.heap.size), .pointer (some ⟨e, 0, none⟩)] 50)) := by
  have hs1 : w1.heap.size = w.heap.size + 1 := by rw [h1, World.size_alloc]
  have hb3 : Below w2.heap.size w2 (w2.alloc (.cells #[.int .i64 (mostN z : Int), .map (some w.heap.size), .pointer (some ⟨e, 0, none⟩)] 50)) := (Below.refl _ _).alloc (Nat.le_refl _) _
  have hs3 : (w2.alloc (.cells #[.int .i64 (mostN z : Int), .map (some w.heap.size), .pointer (some ⟨e, 0, none⟩)] 50)).heap.size = w2.heap.size + 1 := World.size_alloc _ _
  have hnew := heap_alloc_new w2 (.cells #[.int .i64 (mostN z : Int), .map (some w.heap.size), .pointer (some ⟨e, 0, none⟩)] 50)
  generalize w2.alloc (.cells #[.int .i64 (mostN z : Int), .map (some w.heap.size), .pointer (some ⟨e, 0, none⟩)] 50) = w3 at hb3 hs3 hnew ⊢
  have hs2 := hb.size
  have hel := hl.lt
  have hm1 : MapN w.heap.size [] w1 := by rw [h1]; exact MapN.made w
  have hb0 : Below w.heap.size w w1 := by rw [h1]; exact (Below.refl _ _).alloc (Nat.le_refl _) _
  refine ⟨_, [w2.heap.size, w.heap.size, e], rfl, ⟨w.heap.size, e, [], ⟨hnew, ?_, fun b h => ?_, ?_, by simp [blkN], by simp, (fun x hx => by cases hx), (fun x hx => by cases hx), by simp, (fun x hx => by cases hx), (fun p hp => by cases hp), by simp, by simp, fun b hb => ?_, fun p hp => ?_⟩, rfl, by have := mostN_run z; simp; omega⟩, ?_, fun p hp => ?_⟩
  · exact hm1.of_block ((hb3.block _ (by omega)).trans (hb.block _ (by omega)))
  · obtain rfl : b = e := by simpa [blkN] using h
    exact hl.of_block (hb3.block _ hel)
  · exact ⟨(World.cell?_of_block (a := ⟨e, 3, none⟩) (hb3.block _ hel)).trans hk.1, (World.cell?_of_block (a := ⟨e, 2, none⟩) (hb3.block _ hel)).trans hk.2.1, trivial⟩
  · obtain rfl : b = e := by simpa [blkN] using hb
    simp
  · simp only [List.mem_cons, List.not_mem_nil, or_false] at hp
    rcases hp with rfl | rfl | rfl <;> omega
  · exact (hb0.trans (hb.mono (by omega))).trans (hb3.mono (by omega))
  · simp only [List.mem_cons, List.not_mem_nil, or_false] at hp
    rcases hp with rfl | rfl | rfl <;> omega
set_option maxRecDepth 100000 in
set_option maxHeartbeats 4000000 in
theorem new_any (z : Int) (hz : -9223372036854775808 ≤ z ∧ z ≤ 9223372036854775807) (w : World) : Calls Try.prog 6 #[.int .i64 z] w (NewPost z w) := by
  obtain ⟨P, hP⟩ : ∃ P, NewPost z w = P := ⟨_, rfl⟩
  rw [hP]
  have HP := Lib.hid hP
  have HZ := Lib.hid hz
  have HR := Lib.hid (ring_any (w.alloc (.map #[] 0)))
  have hmm := @run_makeMap Try.prog
  clear hP hz
  go_enter Try.func6, Try.ntmps6
  go_wp2_with fail
  refine HR.out.mono ?_
  rintro r w2 ⟨e, rfl, h1, h2, h3, h4⟩
  have hend := new_post (z := z) rfl h1 h2 h3 h4
  rw [HP.out, mostN_run] at hend
  have HEnd := Lib.hid hend
  clear h1 h2 h3 h4 hend
  go_wp2
  exact HEnd.out
end Go.Proofs.Ytgagkmlkoeceiaa.C

/- cache: Len, Peek. -/
namespace Go.Proofs.Ytgagkmlkoeceiaa.C
open Go.RowKit Go.Maps Go.Proofs.Ytgagkmlkoeceiaa.H

theorem gluT : PairT .i32 32 43 16 := ⟨Try.underlying32, by kernel_rfl, by decide⟩
/-- pairs of our own come back -/
def CloPost (l : List (Int × Int)) (w : World) (e : Ending) (w' : World) : Prop := ∃ v, e = .returned v ∧ OwnQ .i32 43 w.heap.size v l w' ∧ Below w.heap.size w w'
theorem OwnP.lit2 (w : World) : OwnQ .i32 43 w.heap.size (.slice (some ⟨w.heap.size, 0, none⟩) 0 0) [] (w.alloc (.cells #[] 43)) := (OwnP.lit .i32 _ w w.heap.size (Nat.le_refl _)).toQ
set_option maxHeartbeats 2000000 in
theorem clone_pairs (a : Option Addr) (n c : Nat) (l : List (Int × Int)) (w : World) (hI : PairsIn .i32 a n c l w) (hnil : a = none → c = 0) (hn : n ≤ 1000000) :
    Calls Try.prog 30 #[.slice a n c] w (CloPost l w) := by
  obtain ⟨P, hP⟩ : ∃ P, CloPost l w = P := ⟨_, rfl⟩
  rw [hP]
  have HP := Lib.hid hP
  cases a with
  | none =>
    have h0 : l = [] := hI.at_.resolve_right (by rintro ⟨b, off, e, -⟩; cases e)
    obtain rfl : c = 0 := hnil rfl
    obtain rfl : n = 0 := by have := hI.fit; omega
    have hend : Hid (P (.returned (.slice none 0 0)) w) := Lib.hid (by rw [← HP.out, h0]; exact ⟨_, rfl, OwnQ.nil _ _ _ _, Below.refl _ _⟩)
    clear hP hI h0 hnil
    have qn : ∀ (w : World), (binOp .eql 32 (.slice none 0 0) (.slice none 0 0)).run Try.prog w = .ok (.bool true) w := fun w => Lib.run_eql_slice_nil w _ _ none 0 0 0 0 Try.underlying32
    go_enter Try.func30, Try.ntmps30
    go_wp2_with fail
    exact hend.out
  | some ad =>
    have hb1 : Below w.heap.size w (w.alloc (.cells #[] 43)) := (Below.refl _ _).alloc (Nat.le_refl _) _
    have HO1 := Lib.hid (OwnP.lit2 w)
    have HI1 := Lib.hid (hI.belowAll hb1)
    have HS1 := Lib.hid hb1.size
    have HLn : Hid ((l.length : Int) ≤ 1000000) := Lib.hid (by rw [← hI.len]; omega)
    have HB1 := Lib.hid hb1
    clear hP hb1 hI hnil
    have qn : ∀ (w : World), (binOp .eql 32 (.slice (some ad) n c) (.slice none 0 0)).run Try.prog w = .ok (.bool false) w := fun w => Lib.run_eql_slice_nil w _ _ (some ad) n c 0 0 Try.underlying32
    go_enter Try.func30, Try.ntmps30
    go_wp2_with (refine wpList_append_q gluT rfl _ _ rfl rfl w.heap.size _ [] (some ad) n c l rfl rfl HO1.out HI1.out (by simp) HLn.out HS1.out ?_)
    intro v' w' hg
    have HE : Hid (OwnQ .i32 43 w.heap.size v' l w' ∧ Below w.heap.size w w') := Lib.hid ⟨by simpa using hg.own, HB1.out.grown hg.grown HS1.out (fun q hq => (HO1.out.own q hq).1)⟩
    clear hg
    go_wp2
    rw [← HP.out]
    exact ⟨_, rfl, HE.out.1, HE.out.2⟩
set_option maxRecDepth 100000 in
set_option maxHeartbeats 4000000 in
theorem len_any {c : Nat} {M G : List Nat} {x : Ca} (w : World) (h : Ch c M G x w) :
    Calls Try.prog 10 #[.pointer (some ⟨c, 0, none⟩)] w fun r w' => r = .returned (.int .i64 (x.L.length : Int)) ∧ w' = w := by
  obtain ⟨P, hP⟩ : ∃ P : Ending → World → Prop, (fun r w' => r = .returned (.int .i64 (x.L.length : Int)) ∧ w' = w) = P := ⟨_, rfl⟩
  rw [hP]
  have hend : Hid (P (.returned (.int .i64 (x.L.length : Int))) w) := Lib.hid (by rw [← hP]; exact ⟨rfl, rfl⟩)
  obtain ⟨m, e, ns, h, h2, -⟩ := h
  have hc1 := h.c1
  have hl : (entN ns).length = x.L.length := by rw [← h2]; simp [entN]
  have hlen := fun ty => h.mp.len ty
  rw [hl] at hlen
  clear h h2 hl hP
  go_enter Try.func10, Try.ntmps10
  go_wp2
  exact hend.out
/-- the line of a number -/
def findC (L : List (Int × List (Int × Int))) (i : Int) : Option (List (Int × Int)) := (L.find? fun x => x.1 == i).map (·.2)
theorem find_nodup : ∀ (ns : List Nd) (y : Nd), (ns.map (·.i)).Nodup → y ∈ ns → findC (ns.map fun y => (y.i, y.g)) y.i = some y.g
  | [], _, _, h => by cases h
  | z :: ns, y, hn, h => by
    unfold findC
    rw [List.map_cons, List.find?_cons]
    rcases List.mem_cons.1 h with rfl | h
    · simp
    · have hne : z.i ≠ y.i := fun e => (List.nodup_cons.1 hn).1 (List.mem_map.2 ⟨y, h, e.symm⟩)
      rw [show ((z.i, z.g).1 == y.i) = false by simpa using hne]
      exact find_nodup ns y (List.nodup_cons.1 hn).2 h
theorem find_none (L : List (Int × List (Int × Int))) (i : Int) (h : ∀ x ∈ L, x.1 ≠ i) : findC L i = none := by
  unfold findC
  rw [List.find?_eq_none.2 (fun x hx => by simpa using h x hx)]
  rfl
/-- what a look at a line answers -/
def PeekPost (L : List (Int × List (Int × Int))) (i : Int) (w : World) (r : Ending) (w' : World) : Prop := ∃ v, r = .returned (.tuple #[v, .bool (findC L i).isSome]) ∧ OwnQ .i32 43 w.heap.size v ((findC L i).getD []) w' ∧ Below w.heap.size w w'
set_option maxRecDepth 100000 in
set_option maxHeartbeats 4000000 in
theorem peek_any {c : Nat} {M G : List Nat} {x : Ca} (i : Int) (hi : -9223372036854775808 ≤ i ∧ i ≤ 9223372036854775807) (w : World) (h : Ch c M G x w) :
    Calls Try.prog 20 #[.pointer (some ⟨c, 0, none⟩), .int .i64 i] w (PeekPost x.L i w) := by
  obtain ⟨m, e, ns, h, h2, -⟩ := h
  obtain ⟨P, hP⟩ : ∃ P, PeekPost x.L i w = P := ⟨_, rfl⟩
  rw [hP]
  have HP := Lib.hid hP
  have hc1 := h.c1
  obtain ⟨v, ok, hrun, hf⟩ := h.mp.look hi
  rcases hf with ⟨rfl, hno⟩ | ⟨b, rfl, rfl, hm⟩
  · have hend : Hid (P (.returned (.tuple #[.slice none 0 0, .bool false])) w) := Lib.hid (by
      have hn : findC x.L i = none := find_none _ _ (fun z hz => by
        rw [← h2] at hz
        obtain ⟨y, hy, rfl⟩ := List.mem_map.1 hz
        exact hno (y.i, y.b) (List.mem_map.2 ⟨y, hy, rfl⟩))
      rw [← HP.out]
      unfold PeekPost
      rw [hn]
      exact ⟨_, rfl, OwnQ.nil _ _ _ _, Below.refl _ _⟩)
    clear h h2 hno hP hi
    go_enter Try.func20, Try.ntmps20
    go_wp2
    exact hend.out
  · obtain ⟨y, hy, he⟩ := List.mem_map.1 hm
    injection he with he1 he2
    subst he1 he2
    have hy1 := h.ct y hy
    have hcl := clone_pairs y.a y.n y.c y.g w hy1.pr hy1.nl (by rw [hy1.pr.len]; exact (h.wf y hy).2.2)
    have hfd := find_nodup ns y h.num hy
    rw [h2] at hfd
    have HF := Lib.hid hfd
    have HCl := Lib.hid hcl
    have l1 := hy1.c1
    clear h h2 hy hm hy1 hcl hfd hP hi
    go_enter Try.func20, Try.ntmps20
    go_wp2_with fail
    refine HCl.out.mono ?_
    rintro r w2 ⟨u, rfl, h1, h2⟩
    have HEnd : Hid (P (.returned (.tuple #[u, .bool true])) w2) := Lib.hid (by
      rw [← HP.out]
      unfold PeekPost
      rw [HF.out]
      exact ⟨_, rfl, h1, h2⟩)
    clear h1 h2
    go_wp2
    exact HEnd.out
end Go.Proofs.Ytgagkmlkoeceiaa.C
