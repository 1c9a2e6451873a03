/-
  WALKS: what two lists of tokens have in common.
-/
import Derived.Test.YtchkngabppmbkaaDoorLexT
import Derived.Test.YtchkngabppmbkaaDoorLexN
import Derived.Test.YtchkngabppmbkaaDoorSpecQ
import Derived.StillTailTactics
namespace Go.Proofs.YtchkngabppmbkaaDoor
open Go.RowKit

theorem tkAt_get {l : List Lx.Tk} {i : Nat} (h : i < l.length) : l[i]? = some (Lx.tkAt l i) := by unfold Lx.tkAt; rw [List.getElem?_eq_getElem h]; rfl
theorem tkEq_eq (x y : Lx.Tk) : tkEq x.kind y.kind x.text y.text x.pos y.pos = decide (x = y) := by
  unfold tkEq
  refine Bool.eq_iff_iff.2 ?_
  rw [decide_eq_true_iff, decide_eq_true_iff]
  cases x; cases y; simp

theorem block_of_cell' {W : World} {a : Addr} {v : Value} (h : W.cell? a = some v) : a.block < W.heap.size := by
  unfold World.cell? at h
  rcases Nat.lt_or_ge a.block W.heap.size with h1 | h1
  · exact h1
  · rw [Array.getElem?_eq_none h1] at h; cases h

set_option maxRecDepth 100000 in
set_option maxHeartbeats 1000000 in
theorem keptSame_any (k k' : Int) (s t : ByteArray) (p p' : Int) (w : World) : Calls Tryd.prog 73 #[.agg #[.int .u8 k, .string s, .int .i64 p], .agg #[.int .u8 k', .string t, .int .i64 p']] w fun e w' => e = .returned (.bool (tkEq k k' s t p p')) ∧ Below w.heap.size w w' := by
  have qn := run_eql_tk
  have qg : ∀ (x y : Operand) (xs ys : Array Value) (w : World), (eqGuard .eql 63 x y (.agg xs) (.agg ys)).run Tryd.prog w = .ok () w := fun x y xs ys w => run_eqGuard_agg w _ _ x y xs ys (by kernel_rfl)
  go_enter Tryd.func73, Tryd.ntmps73
  go_wp2
  go_ret
  refine ⟨rfl, ?_⟩
  repeat (first | assumption | exact Below.refl _ _ | refine Below.drew ?_ | refine Below.alloc ?_ (by first | omega | (simp; omega) | simp) _)

set_option maxRecDepth 100000 in
set_option maxHeartbeats 1000000 in
theorem keptMoved_any (k k' : Int) (s t : ByteArray) (p p' g : Int) (bg : Nat) (w : World) (hg : w.cell? ⟨bg, 0, none⟩ = some (.int .i64 g)) (h0 : -1099511627776 ≤ p) (h1 : p ≤ 1099511627776) (g0 : -1099511627776 ≤ g) (g1 : g ≤ 1099511627776) :
    Calls Tryd.prog 74 #[.agg #[.int .u8 k, .string s, .int .i64 p], .agg #[.int .u8 k', .string t, .int .i64 p'], .pointer (some ⟨bg, 0, none⟩)] w fun e w' => e = .returned (.bool (tkEq k k' s t (p + g) p')) ∧ Below w.heap.size w w' := by
  have qn := run_eql_tk
  have qg : ∀ (x y : Operand) (xs ys : Array Value) (w : World), (eqGuard .eql 63 x y (.agg xs) (.agg ys)).run Tryd.prog w = .ok () w := fun x y xs ys w => run_eqGuard_agg w _ _ x y xs ys (by kernel_rfl)
  have hlt := block_of_cell' hg
  go_enter Tryd.func74, Tryd.ntmps74
  go_wp2
  go_ret
  refine ⟨rfl, ?_⟩
  repeat (first | assumption | exact Below.refl _ _ | refine Below.drew ?_ | refine Below.setCell ?_ (by first | omega | (simp; omega) | simp) _ | refine Below.alloc ?_ (by first | omega | (simp; omega) | simp) _)
end Go.Proofs.YtchkngabppmbkaaDoor
