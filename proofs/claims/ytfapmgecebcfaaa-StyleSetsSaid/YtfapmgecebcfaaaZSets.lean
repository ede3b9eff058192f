/- StyleSets: numbers set a style just as the document says: the walk. -/
import Derived.Test.YtfapmgecebcfaaaZArg
import Derived.Lib.QuietBelow
import Derived.BigQuiet
import Derived.Deep.DeepCutAuto
namespace Go.Proofs.Ytfapmgecebcfaaa.Z
open Go.RowKit
open Go.Proofs.Ytfapmgecebcfaaa.W (OwnI IntsIn ArgI)

set_option maxRecDepth 100000 in
set_option maxHeartbeats 8000000 in
theorem sets_walk (s : Sty) (a : Option Addr) (len cap : Nat) (zs : List Int) (w : World) (hA : ArgI a len cap zs w) : Calls Try.prog 3 #[sV s, .slice a len cap] w fun e w' => e = .returned (.bool true) ∧ Below w.heap.size w w' := by
  obtain ⟨rb, hrb⟩ : ∃ rb, w.heap.size = rb := ⟨_, rfl⟩
  obtain ⟨w1, hw1⟩ : ∃ w1, w.alloc (.cells #[.int .i64 s.fore, .int .i64 s.back, .bool s.bold, .bool s.under, .bool s.inv] 23) = w1 := ⟨_, rfl⟩
  have hb1 : Below rb w w1 := by rw [← hw1, ← hrb]; exact (Below.refl _ _).alloc (Nat.le_refl _) _
  have hd1 : SBlk 23 rb s w1 := by rw [← hw1, ← hrb]; exact SBlk.new _ _ _
  have hlt1 : rb < w1.heap.size := hd1.lt
  have HB1 := Lib.hid hb1
  have HD1 := Lib.hid hd1
  have HW1 := Lib.hid hw1
  have HRb := Lib.hid hrb
  have HAw := Lib.hid (fun w => awake_any w)
  obtain ⟨M, hM⟩ : ∃ M : Nat, min (len : Int) 30 = (M : Int) := ⟨min len 30, by omega⟩
  have hml : M ≤ len := by omega
  have hmc : (M : Int) ≤ cap := by have := hA.fit; omega
  have hm30 : (M : Int) ≤ 30 := by omega
  have htop := hA.top
  have HI : Hid (IntsIn a M (zs.take M) w) := Lib.hid (hA.rs.take hml)
  obtain ⟨ys, hys⟩ : ∃ ys, zs.take M = ys := ⟨_, rfl⟩
  rw [hys] at HI
  clear hb1 hd1 hw1 hrb hA hys
  unfold sV
  go_enter Try.func3, Try.ntmps3
  go_upto_region 1 with fail
  rw [HW1.out, HRb.out]
  go_wp2_with fail
  refine (HAw.out _).mono ?_
  rintro e w2 ⟨rfl, hb2⟩
  have hlt2 : rb < w2.heap.size := Nat.lt_of_lt_of_le hlt1 hb2.size
  have HB2 : Hid (Below rb w w2) := Lib.hid (HB1.out.trans (hb2.mono (by omega)))
  have hd2 := HD1.out.below hb2 hlt1
  have HI2 := Lib.hid (HI.out.belowAll (by rw [HRb.out]; exact HB2.out))
  clear hb2 HAw
  obtain ⟨R, hR⟩ : ∃ R, setS s ys = R := ⟨_, rfl⟩
  have cS : ∀ d os, Calls Try.prog 9 #[sV s, .slice a M cap] (Go.Sort.grow (redrawn w2 d) os) fun en w'' => en = .returned (sV R) ∧ ∃ p : Regrown, w'' = Go.Sort.grow (redrawn w2 p.d) p.os := fun d os => by
    have h := set_any s a M cap ys (by omega) htop (Go.Sort.grow (redrawn w2 d) os) (HI2.out.belowAll (below_regrown w2 d os))
    rw [hR] at h
    exact Calls.regrown_of h
  have cR : ∀ d os, Calls Try.prog 10 #[sV s, .slice a M cap] (Go.Sort.grow (redrawn w2 d) os) fun en w'' => en = .returned (sV R) ∧ ∃ p : Regrown, w'' = Go.Sort.grow (redrawn w2 p.d) p.os := fun d os => by
    have h := refSet_any s a M cap ys (by omega) (Go.Sort.grow (redrawn w2 d) os) (HI2.out.belowAll (below_regrown w2 d os))
    rw [hR] at h
    exact Calls.regrown_of h
  have z0 := fun d os => cell_regrown hd2.c0 d os
  have z1 := fun d os => cell_regrown hd2.c1 d os
  have z2 := fun d os => cell_regrown hd2.c2 d os
  have z3 := fun d os => cell_regrown hd2.c3 d os
  have z4 := fun d os => cell_regrown hd2.c4 d os
  unfold sV at cS cR
  have CS := Lib.hid cS
  have CR := Lib.hid cR
  clear cS cR hd2 hR HI HI2
  go_upto_region 4 with fail
  refine wp_region_quiet_below (by kernel_rfl) (by kernel_rfl) ?_
  repeat (go_big_quiet_step (first | exact CS.out _ _ | exact CR.out _ _))
  refine wpQuiet_nil ?_
  intro _ hw'
  obtain ⟨⟨dq, osq⟩, hw''⟩ := hw'
  subst hw''
  go_wp2
  go_ret
  exact ⟨rfl, by rw [HRb.out]; exact HB2.out.trans ((below_regrown _ _ _).mono (by omega))⟩
end Go.Proofs.Ytfapmgecebcfaaa.Z
