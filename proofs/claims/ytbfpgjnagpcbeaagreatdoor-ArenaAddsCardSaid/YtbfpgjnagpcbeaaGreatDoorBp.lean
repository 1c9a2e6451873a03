/-
  WALKS: Less.
-/
import Derived.Test.YtbfpgjnagpcbeaaGreatDoorBo
namespace Go.Proofs.YtbfpgjnagpcbeaaGreatDoor
open Go.RowKit Go.MapKept Go.Shelf

def mvCell (m : Ar.Mv) (b : Nat) (W : World) : Prop := W.cell? ⟨b, 0, none⟩ = some (.int .i64 m.id) ∧ W.cell? ⟨b, 1, none⟩ = some (.int .i64 m.arg) ∧ W.cell? ⟨b, 2, none⟩ = some (.int .u8 m.kind) ∧ W.cell? ⟨b, 3, none⟩ = some (.int .i64 m.n)
theorem nums4 (W : World) (N : Nat) (hN : N = W.heap.size) (a b c d : Int) (t : TypeId) : Nums (W.alloc (.cells #[.int .i64 a, .int .i64 b, .int .i64 c, .int .i64 d] t (0, 0))) N [a, b, c, d] := by
  subst hN
  obtain ⟨h0, h1, h2, h3, -, -, -, -⟩ := cells4 (World.alloc_heap_new W (.cells #[.int .i64 a, .int .i64 b, .int .i64 c, .int .i64 d] t (0, 0)))
  intro i x hx
  match i, hx with
  | 0, hx => simp at hx; subst hx; exact h0
  | 1, hx => simp at hx; subst hx; exact h1
  | 2, hx => simp at hx; subst hx; exact h2
  | 3, hx => simp at hx; subst hx; exact h3
  | i + 4, hx => simp at hx
def LS (w : World) (x y : Ar.Mv) (W : World) : Prop := Below w.heap.size w W ∧ W.cell? ⟨w.heap.size, 0, none⟩ = some (.int .i64 x.id) ∧ W.cell? ⟨w.heap.size, 1, none⟩ = some (.int .i64 x.arg) ∧ W.cell? ⟨w.heap.size, 2, none⟩ = some (.int .u8 x.kind) ∧ W.cell? ⟨w.heap.size, 3, none⟩ = some (.int .i64 x.n) ∧
  W.cell? ⟨w.heap.size + 1, 0, none⟩ = some (.int .i64 y.id) ∧ W.cell? ⟨w.heap.size + 1, 1, none⟩ = some (.int .i64 y.arg) ∧ W.cell? ⟨w.heap.size + 1, 2, none⟩ = some (.int .u8 y.kind) ∧ W.cell? ⟨w.heap.size + 1, 3, none⟩ = some (.int .i64 y.n)
theorem LS.next {w W W' : World} {x y : Ar.Mv} (h : LS w x y W) (hB : Below W.heap.size W W') : LS w x y W' := by
  obtain ⟨h0, a0, a1, a2, a3, b0, b1, b2, b3⟩ := h
  exact ⟨h0.trans (hB.mono h0.size), keep_cell hB a0, keep_cell hB a1, keep_cell hB a2, keep_cell hB a3, keep_cell hB b0, keep_cell hB b1, keep_cell hB b2, keep_cell hB b3⟩
set_option maxRecDepth 100000 in
set_option maxHeartbeats 4000000 in
theorem less_any (x y : Ar.Mv) (w : World) : Calls Tryz.prog 47 #[mvV x, mvV y] w fun e w' => e = .returned (.bool (Ar.lessOf x y)) ∧ Below w.heap.size w w' := by
  have hB0 := below_two (w := w) (.cells #[.int .i64 x.id, .int .i64 x.arg, .int .u8 x.kind, .int .i64 x.n] 40 (0, 0)) (.cells #[.int .i64 y.id, .int .i64 y.arg, .int .u8 y.kind, .int .i64 y.n] 40 (0, 0))
  have h1 := two_new1 w (.cells #[.int .i64 x.id, .int .i64 x.arg, .int .u8 x.kind, .int .i64 x.n] 40 (0, 0)) (.cells #[.int .i64 y.id, .int .i64 y.arg, .int .u8 y.kind, .int .i64 y.n] 40 (0, 0))
  have h2 := two_new2 w (.cells #[.int .i64 x.id, .int .i64 x.arg, .int .u8 x.kind, .int .i64 x.n] 40 (0, 0)) (.cells #[.int .i64 y.id, .int .i64 y.arg, .int .u8 y.kind, .int .i64 y.n] 40 (0, 0))
  obtain ⟨a0, a1, a2, a3, -, -, -, -⟩ := cells4 h1
  obtain ⟨b0, b1, b2, b3, -, -, -, -⟩ := cells4 h2
  have hS0 : LS w x y ((w.alloc (.cells #[.int .i64 x.id, .int .i64 x.arg, .int .u8 x.kind, .int .i64 x.n] 40 (0, 0))).alloc (.cells #[.int .i64 y.id, .int .i64 y.arg, .int .u8 y.kind, .int .i64 y.n] 40 (0, 0))).drew := ⟨hB0.drew, a0, a1, a2, a3, b0, b1, b2, b3⟩
  have HS0 := Lib.hid hS0
  have HL := Lib.hid (Ar.orOf_less x y)
  have hx0 : mvV x = .agg #[.int .i64 x.id, .int .i64 x.arg, .int .u8 x.kind, .int .i64 x.n] := rfl
  have hy0 : mvV y = .agg #[.int .i64 y.id, .int .i64 y.arg, .int .u8 y.kind, .int .i64 y.n] := rfl
  rw [hx0, hy0]
  clear hS0 a0 a1 a2 a3 b0 b1 b2 b3 h1 h2 hB0 hx0 hy0
  have HOR := Lib.hid (fun (W : World) (p q r s : Int) => (show Calls Tryz.prog 104 #[.slice (some ⟨W.heap.size, 0, none⟩) 4 4] (W.alloc (.cells #[.int .i64 p, .int .i64 q, .int .i64 r, .int .i64 s] 3 (0, 0))).drew (fun e w' => e = .returned (.int .i64 (Ar.orOf [p, q, r, s])) ∧ w' = (W.alloc (.cells #[.int .i64 p, .int .i64 q, .int .i64 r, .int .i64 s] 3 (0, 0))).drew) from or_any [p, q, r, s] W.heap.size 4 (W.alloc (.cells #[.int .i64 p, .int .i64 q, .int .i64 r, .int .i64 s] 3 (0, 0))).drew (nums4 W _ rfl p q r s _) (by simp)))
  go_enter Tryz.func47, Tryz.ntmps47
  go_wp2
  generalize ((w.alloc (.cells #[.int .i64 x.id, .int .i64 x.arg, .int .u8 x.kind, .int .i64 x.n] 40 (0, 0))).alloc (.cells #[.int .i64 y.id, .int .i64 y.arg, .int .u8 y.kind, .int .i64 y.n] 40 (0, 0))) = W0 at *
  go_region_held3 (fun w' => Below w.heap.size w w' ∧ w'.cell? ⟨w.heap.size, 0, none⟩ = some (.int .i64 x.id) ∧ w'.cell? ⟨w.heap.size, 1, none⟩ = some (.int .i64 x.arg) ∧ w'.cell? ⟨w.heap.size, 2, none⟩ = some (.int .u8 x.kind) ∧ w'.cell? ⟨w.heap.size, 3, none⟩ = some (.int .i64 x.n) ∧
    w'.cell? ⟨w.heap.size + 1, 0, none⟩ = some (.int .i64 y.id) ∧ w'.cell? ⟨w.heap.size + 1, 1, none⟩ = some (.int .i64 y.arg) ∧ w'.cell? ⟨w.heap.size + 1, 2, none⟩ = some (.int .u8 y.kind) ∧ w'.cell? ⟨w.heap.size + 1, 3, none⟩ = some (.int .i64 y.n))
    (first
      | exact HS0.out
      | assumption
      | exact LS.next (by assumption) ((Below.refl _ _).alloc (Nat.le_refl _) _)
      | go_keep)
    ((first
      | (go_at_call 105; refine (Tryz.cmp_Compare_int _ _ _).mono ?_; rintro e w5 ⟨rfl, rfl⟩)
      | (go_at_call 106; refine (compareU8_any _ _ _).mono ?_; rintro e w5 ⟨rfl, rfl⟩)
      | (go_at_call 104; refine (HOR.out W0 _ _ _ _).mono ?_; rintro e w5 ⟨rfl, rfl⟩)))
  all_goals go_wp2
  all_goals
    go_ret
    exact ⟨ret_bool HL.out, SI_below (by assumption)⟩
end Go.Proofs.YtbfpgjnagpcbeaaGreatDoor
