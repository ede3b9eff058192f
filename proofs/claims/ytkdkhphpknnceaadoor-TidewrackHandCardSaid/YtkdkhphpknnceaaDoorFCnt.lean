/- The contract of flow.Count. -/
import Derived.Test.YtkdkhphpknnceaaDoorFCuts
namespace Go.Proofs.YtkdkhphpknnceaaDoor.F
open Go.RowKit Go.Shelf H
open W (OwnR RunesIn Rn Tab blkOf blkOf_sub blkOf_some KeepL keepL_t keepL_b fitS fitS_le fit_any)

attribute [local go_sem] Oper.semAt_some

theorem cut_stops (n : Nat) (hn : 2 ≤ n) (B : Nat) (a : Option Addr) (len cap : Nat) (zs : List Int) (W : Int) (hW : 2 ≤ W ∧ W ≤ 1000) (cs : List (Ct zs.length)) (hcs : cs.map Subtype.val = cutsF W zs) (w : World) (hL : LooksF B a len cap zs W w) :
    SeqStopsK Fence.wide n Tryd.prog 30 #[.pointer (some ⟨B + 1, 0, none⟩), .pointer (some ⟨B, 0, none⟩)] encC (KeepL (lookF B a zs)) (fun ys => ys = cs) (fun pre => ∃ j, j ≤ cs.length ∧ pre = cs.take j) cs.length w := fun l J Jx V hV hJ _ hY h0 =>
  cut1_in n hn l B a len cap zs W hW cs hcs J Jx V hJ hY (hL.below hV) h0
theorem cuts_few {w : Int} (hw : 2 ≤ w) (l : List (Int × Int)) : (cutsF w (runesF l)).length ≤ l.length + 1 := by
  rw [cuts_count hw]
  exact (brk_few hw l [] 0 (by simp)).1
theorem own_rn {base : Nat} {v : Value} {zs : List Int} {w : World} (h : OwnR base v zs w) (hT : Tab w) (hf : (zs.length : Int) ≤ 1000000) : ∃ a c, v = .slice a zs.length c ∧ Rn a zs.length zs w ∧ zs.length ≤ c ∧ (c : Int) ≤ 9223372036854775807 ∧ (∀ x, a = some x → x = ⟨x.block, x.off, none⟩) ∧ ∀ b ∈ blkOf a zs, base ≤ b := by
  have hsp : ∀ x len c, v = .slice (some x) len c → x = ⟨x.block, x.off, none⟩ := by
    rcases h.2 with ⟨e, _⟩ | ⟨g, cap, cur, e, _⟩
    · rintro x len c rfl; cases e
    · rintro x len c rfl; injection e with e; injection e with e; rw [e]
  obtain ⟨a, c, rfl, h1, h2, -, h4, h5⟩ := h.shape
  exact ⟨a, c, rfl, ⟨h1, hT, fun b hb => (h2 b hb).2, hf⟩, by omega, h5, (fun x e => hsp x _ _ (by rw [e])), fun b hb => (h2 b hb).1⟩
theorem look_not {B b0 base : Nat} {a : Option Addr} {zs : List Int} (h0 : 0 < b0) (h1 : b0 < base) (h2 : base ≤ B) (hb : ∀ b ∈ blkOf a zs, base ≤ b) : b0 ∉ lookF B a zs := by
  intro hm
  rcases List.mem_cons.1 hm with e | hm
  · omega
  rcases List.mem_cons.1 hm with e | hm
  · omega
  rcases List.mem_cons.1 hm with e | hm
  · omega
  · have := hb _ hm; omega
end Go.Proofs.YtkdkhphpknnceaaDoor.F
