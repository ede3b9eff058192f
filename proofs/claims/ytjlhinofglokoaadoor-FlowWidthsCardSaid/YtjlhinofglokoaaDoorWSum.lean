/- The contract of wide.Sum: of any runes, all their columns together. -/
import Derived.Test.YtjlhinofglokoaaDoorWCols
namespace Go.Proofs.YtjlhinofglokoaaDoor.W
open Go.RowKit Go.Shelf

attribute [local go_sem] Oper.semAt_some

theorem columns_in (n : Nat) (a : Option Addr) (len cap : Nat) (w : World) :
    CallsIn Fence.wide n Tryd.prog 50 #[.slice a len cap] w fun e w' => e = .returned (.func (.func 64) #[] #[.pointer (some ⟨w.heap.size, 0, none⟩)]) ∧ w' = w.alloc (.cells #[.slice a len cap] 69) := by
  refine callsIn_of_wp Tryd.func50 rfl trivial ?_ rfl
  simp only [Tryd.ntmps50, List.size_toArray, List.length_cons, List.length_nil, Nat.reduceAdd, Nat.reduceSub, Array.replicate_succ, Array.replicate_zero, List.push_toArray, List.append_toArray, List.nil_append, List.cons_append]
  gi_wp2
  go_ret
  exact ⟨rfl, rfl⟩
/-- What a slice of runes in a world with the spans is. -/
structure Rn (a : Option Addr) (len : Nat) (zs : List Int) (w : World) : Prop where
  rs : RunesIn a len zs w
  tb : Tab w
  lt : ∀ b ∈ blkOf a zs, b < w.heap.size
  few : (zs.length : Int) ≤ 1000000
theorem Rn.belowAll {a : Option Addr} {len : Nat} {zs : List Int} {w w' : World} (h : Rn a len zs w) (hb : Below w.heap.size w w') : Rn a len zs w' := ⟨h.rs.belowAll hb, h.tb.belowAll hb, fun b hm => Nat.lt_of_lt_of_le (h.lt b hm) hb.size, h.few⟩
theorem looks_new {a : Option Addr} {len cap : Nat} {zs : List Int} {w : World} (h : Rn a len zs w) : Looks w.heap.size a len cap zs (w.alloc (.cells #[.slice a len cap] 69)) := by
  have hb : Below w.heap.size w (w.alloc (.cells #[.slice a len cap] 69)) := (Below.refl _ _).alloc (Nat.le_refl _) _
  have h' := h.belowAll hb
  exact ⟨Boxed.new w 69 _, h'.rs, h'.tb, h'.lt⟩
theorem cols_stops (n : Nat) (hn : 2 ≤ n) (B : Nat) (a : Option Addr) (len cap : Nat) (zs : List Int) (hlen : (zs.length : Int) ≤ 1000000) (w : World) (hL : Looks B a len cap zs w) :
    SeqStopsK Fence.wide n Tryd.prog 64 #[.pointer (some ⟨B, 0, none⟩)] (fun x : Int => #[Value.int .i64 (ofS x : Int)]) (KeepL (lookL B a zs)) (fun ys => ys = zs) (fun pre => ∃ j, j ≤ zs.length ∧ pre = zs.take j) zs.length w := fun l J Jx W hW hJ _ hY h0 =>
  cols1_in n hn l B a len cap zs hlen J Jx W hJ hY (hL.keep (KeepL.of_below hW hL.all)) h0
end Go.Proofs.YtjlhinofglokoaaDoor.W
