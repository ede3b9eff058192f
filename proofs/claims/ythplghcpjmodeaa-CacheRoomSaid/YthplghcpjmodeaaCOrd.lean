/- The contract of cache.Order. -/
import Derived.Test.YthplghcpjmodeaaCGet
import Derived.Test.YthplghcpjmodeaaWInts
namespace Go.Proofs.Ythplghcpjmodeaa.C
open Go.RowKit Go.Maps Go.Proofs.Ythplghcpjmodeaa.H
open Go.Proofs.Ythplghcpjmodeaa.W (OwnI IntsIn wpList_append_ints ints_one take_snoc)

theorem equal_ptr {b e : Nat} {w : World} (hb : IsLine b w) (he : IsLine e w) : (Op.equal 67 (.pointer (some ⟨b, 0, none⟩)) (.pointer (some ⟨e, 0, none⟩))).run Try.prog w = .ok (decide (b = e)) w := by
  obtain ⟨cs, h1, -⟩ := hb
  obtain ⟨ce, h3, -⟩ := he
  unfold Op.equal
  obtain ⟨n, hn⟩ : ∃ n, Op.maxDepth = n + 1 := ⟨Op.maxDepth - 1, by decide⟩
  rw [hn]
  unfold Op.equalIn
  simp [run_underlying Try.underlying67, sameAddr, World.frozen?, h1, noView, mayBeOne, h3, viewAt, stringish, World.shape?]
  by_cases e9 : b = e
  · subst e9; simp
  · simp [e9]
theorem ptr_neq {b e : Nat} {w : World} (hb : IsLine b w) (he : IsLine e w) : (binOp .neq 67 (.pointer (some ⟨b, 0, none⟩)) (.pointer (some ⟨e, 0, none⟩))).run Try.prog w = .ok (.bool (!decide (b = e))) w := by
  simp [binOp, equal_ptr hb he]
theorem Links.nextAt {w : World} : ∀ (l : List Nat) (k x y : Nat), Links w l → l[k]? = some x → l[k + 1]? = some y → NextIs w x y
  | [], k, x, y, _, h, _ => by simp at h
  | [a], k, x, y, _, _, h => by simp at h
  | a :: b :: l, 0, x, y, h, h1, h2 => by
    obtain rfl : a = x := by simpa using h1
    obtain rfl : b = y := by simpa using h2
    exact h.1
  | a :: b :: l, k + 1, x, y, h, h1, h2 => Links.nextAt (b :: l) k x y h.2.2 (by simpa using h1) (by simpa using h2)
def slLen : Value → Nat
  | .slice _ n _ => n
  | _ => 0
theorem OwnI.slLen {base : Nat} {v : Value} {xs : List Int} {w : World} (h : OwnI base v xs w) : slLen v = xs.length := by
  obtain ⟨a, c, rfl, -⟩ := W.OwnI.shape h
  rfl
/-- at a place of the ring -/
structure OrdAt (e rb : Nat) (ns : List Nd) (w : World) (j b : Nat) (s : Value) (wr : World) : Prop where
  at_ : (blkN ns ++ [e])[j]? = some b
  le : j ≤ ns.length
  own : OwnI rb s ((ns.map (·.i)).take j) wr
  below : Below rb w wr
  size : rb ≤ wr.heap.size
def OrdPost (L : List (Int × List (Int × Int))) (w : World) (r : Ending) (w' : World) : Prop := ∃ v, r = .returned v ∧ OwnI w.heap.size v (L.map (·.1)) w' ∧ Below w.heap.size w w'
set_option maxRecDepth 100000 in
set_option maxHeartbeats 8000000 in
theorem order_any {c : Nat} {M G : List Nat} {x : Ca} (w : World) (h : Ch c M G x w) : Calls Try.prog 22 #[.pointer (some ⟨c, 0, none⟩)] w (OrdPost x.L w) := by
  obtain ⟨P, hP⟩ : ∃ P, OrdPost x.L w = P := ⟨_, rfl⟩
  rw [hP]
  have HP := Lib.hid hP
  obtain ⟨m, e, ns, h, h2, hfit⟩ := h
  obtain ⟨rb, hrb⟩ : ∃ rb, w.heap.size = rb := ⟨_, rfl⟩
  have HRb := Lib.hid hrb
  have hc2 := h.c2
  have hcl : c < rb := by rw [← hrb]; exact (Array.getElem?_eq_some_iff.1 h.cb).1
  obtain ⟨b0, hb0⟩ : ∃ b0, (blkN ns ++ [e])[0]? = some b0 := ⟨_, List.getElem?_eq_getElem (by simp)⟩
  have hn0 : w.cell? ⟨e, 3, none⟩ = some (.pointer (some ⟨b0, 0, none⟩)) := Links.nextAt _ 0 e b0 h.lk (by simp) (by simpa using hb0)
  have HCh := Lib.hid h
  have H2 := Lib.hid h2
  have HB0 := Lib.hid hb0
  have hlen : ns.length ≤ 65537 := h.few
  clear hP h h2 hfit hrb hb0
  go_enter Try.func22, Try.ntmps22
  go_wp2_with fail
  clear hn0
  go_loopw [3, 4] (fun s p wr => ∃ j b, p = .pointer (some ⟨b, 0, none⟩) ∧ Hid (OrdAt e rb ns w j b s wr)) (fun s _ _ => ns.length - slLen s)
  case atStart => exact ⟨0, b0, rfl, Lib.hid ⟨HB0.out, Nat.zero_le _, W.OwnI.nil _ _, Below.refl _ _, by rw [HRb.out]; exact Nat.le_refl _⟩⟩
  case round =>
    obtain ⟨j, b, rfl, HF⟩ := hrel
    have hbb : Below w.heap.size w wr := by rw [HRb.out]; exact HF.out.below
    have hb2 := (hbb.cell (p := ⟨c, 2, none⟩) (by rw [HRb.out]; exact hcl)).trans hc2
    try simp only at hb2
    have hle : IsLine e wr := (HCh.out.ln e (by simp)).of_block (hbb.block _ (HCh.out.ln e (by simp)).lt)
    by_cases hlt : j < ns.length
    · obtain ⟨y, hy⟩ : ∃ y, ns[j]? = some y := ⟨_, List.getElem?_eq_getElem hlt⟩
      have hyb : y.b = b := by
        have h5 := HF.out.at_
        rw [List.getElem?_append_left (by simpa [blkN] using hlt)] at h5
        unfold blkN at h5
        rw [List.getElem?_map, hy] at h5
        simpa using h5
      have hym := List.mem_of_getElem? hy
      have hym2 : y.b ∈ blkN ns := List.mem_map.2 ⟨y, hym, rfl⟩
      have hln := HCh.out.ln y.b (List.mem_cons_of_mem _ hym2)
      have hlb : IsLine b wr := by rw [← hyb]; exact hln.of_block (hbb.block _ hln.lt)
      have hne : ¬ b = e := fun e9 => (List.nodup_cons.1 HCh.out.nd).1 (by rw [← e9, ← hyb]; exact hym2)
      have qn := ptr_neq hlb hle
      rw [show (!decide (b = e)) = true by simp [hne]] at qn
      have k0 := (hbb.cell (p := ⟨y.b, 0, none⟩) hln.lt).trans (HCh.out.ct y hym).c0
      rw [hyb] at k0
      try simp only at k0
      obtain ⟨b', hb'⟩ : ∃ b', (blkN ns ++ [e])[j + 1]? = some b' := ⟨_, List.getElem?_eq_getElem (by simp [blkN]; omega)⟩
      have hnx : NextIs w b b' := Links.nextAt _ (j + 1) b b' HCh.out.lk (by have := HF.out.at_; simpa using this) (by simpa using hb')
      have HNx := Lib.hid hnx
      have HB' := Lib.hid hb'
      have HLn : Hid (b < w.heap.size) := Lib.hid (by rw [← hyb]; exact hln.lt)
      have HY : Hid ((ns.map (·.i)).take (j + 1) = (ns.map (·.i)).take j ++ [y.i]) := Lib.hid (by
        rw [take_snoc _ j (by simpa using hlt)]
        simp [List.getD_eq_getElem?_getD, hy])
      have HLt := Lib.hid hlt
      clear hy hyb hym hym2 hln hlb hle hb' hnx hlt hbb
      have HO : Hid (OwnI rb u3 ((ns.map (·.i)).take j) (wr.alloc (.cells #[.int .i64 y.i] 3))) := Lib.hid (HF.out.own.alloc _)
      have HI1 : Hid (IntsIn (some ⟨wr.heap.size, 0, none⟩) 1 [y.i] (wr.alloc (.cells #[.int .i64 y.i] 3))) := Lib.hid (ints_one wr _ _)
      have HTl : Hid ((((ns.map (·.i)).take j).length : Int) ≤ 1000000) := Lib.hid (by rw [List.length_take, List.length_map]; have := HLt.out; omega)
      have HSz : Hid (rb ≤ (wr.alloc (.cells #[.int .i64 y.i] 3)).heap.size) := Lib.hid (by have := HF.out.size; simp; omega)
      go_wp2_with (at_builtin; go_loud (refine wpList_append_ints rfl _ _ rfl rfl rb u3 ((ns.map (·.i)).take j) (some ⟨wr.heap.size, 0, none⟩) 1 1 [y.i] rfl rfl HO.out HI1.out (fun e => by cases e) HTl.out (by simp) HSz.out ?_))
      intro v' w5 hown' hgr
      rw [← HY.out] at hown'
      have hb5 : Below rb w w5 := (HF.out.below.alloc HF.out.size _).grown hgr (by have := HF.out.size; simp; omega) (fun q hq => HF.out.own.ownBlock q hq)
      have hs5 : rb ≤ w5.heap.size := by have h7 := hgr.size; have := HF.out.size; simp at h7; omega
      have n3 : w5.cell? ⟨b, 3, none⟩ = some (.pointer (some ⟨b', 0, none⟩)) := (hb5.cell (p := ⟨b, 3, none⟩) (by rw [← HRb.out]; exact HLn.out)).trans HNx.out
      have HE : Hid (OrdAt e rb ns w (j + 1) b' v' w5) := Lib.hid ⟨HB'.out, HLt.out, hown', hb5, hs5⟩
      have HM : Hid (slLen v' = j + 1 ∧ j < ns.length) := Lib.hid ⟨by rw [OwnI.slLen hown', List.length_take, List.length_map]; have := HLt.out; omega, HLt.out⟩
      have HM0 : Hid (slLen u3 = j) := Lib.hid (by rw [OwnI.slLen HF.out.own, List.length_take, List.length_map]; have := HLt.out; omega)
      clear hown' hgr hb5 hs5 qn k0
      go_wp2_with fail
      go_roundw
      case rel => exact ⟨j + 1, b', rfl, HE⟩
      case measure => rw [HM.out.1, HM0.out]; have := HM.out.2; omega
    · have hj : j = ns.length := by have := HF.out.le; omega
      have hbe : b = e := by
        have h5 := HF.out.at_
        rw [hj, List.getElem?_append_right (by simp [blkN])] at h5
        simpa [blkN] using h5.symm
      subst hbe
      have qn := ptr_neq hle hle
      rw [show (!decide (b = b)) = false by simp] at qn
      have hend : Hid (P (.returned u3) wr) := Lib.hid (by
        rw [← HP.out]
        refine ⟨_, rfl, ?_, ?_⟩
        · have h5 := HF.out.own
          rw [hj, List.take_of_length_le (by simp)] at h5
          rw [HRb.out, ← H2.out, List.map_map]
          exact h5
        · rw [HRb.out]
          exact HF.out.below)
      clear HF hlt hj hle hbb
      go_wp2_with fail
      exact hend.out
end Go.Proofs.Ythplghcpjmodeaa.C
