/-
  WALKS: ArenaLess.
-/
import Derived.Test.YtbfpgjnagpcbeaaGreatDoorBs
namespace Go.Proofs.YtbfpgjnagpcbeaaGreatDoor
open Go.RowKit Go.MapKept Go.Shelf

def mvX (m : Ar.Mv) : Value := .agg #[.int .i64 m.id, .int .i64 m.arg, .int .u8 m.kind, .int .i64 m.n]
theorem less_lit (a b c d a' b' c' d' : Int) (W : World) : Calls Tryz.prog 47 #[.agg #[.int .i64 a, .int .i64 b, .int .u8 c, .int .i64 d], .agg #[.int .i64 a', .int .i64 b', .int .u8 c', .int .i64 d']] W fun e w' => e = .returned (.bool (Ar.lessOf ⟨a, b, c, d⟩ ⟨a', b', c', d'⟩)) ∧ Below W.heap.size W w' := less_any ⟨a, b, c, d⟩ ⟨a', b', c', d'⟩ W
theorem refLess_lit (a b c d a' b' c' d' : Int) (W : World) : Calls Tryz.prog 48 #[.agg #[.int .i64 a, .int .i64 b, .int .u8 c, .int .i64 d], .agg #[.int .i64 a', .int .i64 b', .int .u8 c', .int .i64 d']] W fun e w' => e = .returned (.bool (Ar.lessOf ⟨a, b, c, d⟩ ⟨a', b', c', d'⟩)) ∧ Below W.heap.size W w' := refLess_any ⟨a, b, c, d⟩ ⟨a', b', c', d'⟩ W
set_option maxRecDepth 100000 in
set_option maxHeartbeats 8000000 in
theorem law_less (a b c d a' b' c' d' : Int) (w : World) (hV : GV w) (hG : GT w) : Calls Tryz.prog 9 #[.agg #[.int .i64 a, .int .i64 b, .int .u8 c, .int .i64 d], .agg #[.int .i64 a', .int .i64 b', .int .u8 c', .int .i64 d']] w fun e w' => e = .returned (.bool true) ∧ Below w.heap.size w w' := by
  have hB0 := below_two (w := w) (.cells #[.int .i64 a, .int .i64 b, .int .u8 c, .int .i64 d] 40 (0, 0)) (.cells #[.int .i64 a', .int .i64 b', .int .u8 c', .int .i64 d'] 40 (0, 0))
  have h1 := two_new1 w (.cells #[.int .i64 a, .int .i64 b, .int .u8 c, .int .i64 d] 40 (0, 0)) (.cells #[.int .i64 a', .int .i64 b', .int .u8 c', .int .i64 d'] 40 (0, 0))
  have h2 := two_new2 w (.cells #[.int .i64 a, .int .i64 b, .int .u8 c, .int .i64 d] 40 (0, 0)) (.cells #[.int .i64 a', .int .i64 b', .int .u8 c', .int .i64 d'] 40 (0, 0))
  obtain ⟨a0, a1, a2, a3, -, -, -, -⟩ := cells4 h1
  obtain ⟨b0, b1, b2, b3, -, -, -, -⟩ := cells4 h2
  have hS0 : LS w ⟨a, b, c, d⟩ ⟨a', b', c', d'⟩ ((w.alloc (.cells #[.int .i64 a, .int .i64 b, .int .u8 c, .int .i64 d] 40 (0, 0))).alloc (.cells #[.int .i64 a', .int .i64 b', .int .u8 c', .int .i64 d'] 40 (0, 0))).drew := ⟨hB0.drew, a0, a1, a2, a3, b0, b1, b2, b3⟩
  have HS0 := Lib.hid hS0
  have hi0 := Ar.lessOf_irrefl ⟨a, b, c, d⟩
  have HA := Lib.hid (fun W (hB : Below w.heap.size w W) => awake_any W (hV.below hB) (hG.below hB))
  clear hS0 a0 a1 a2 a3 b0 b1 b2 b3 h1 h2 hB0 hV hG
  go_enter Tryz.func9, Tryz.ntmps9
  go_wp2
  generalize ((w.alloc (.cells #[.int .i64 a, .int .i64 b, .int .u8 c, .int .i64 d] 40 (0, 0))).alloc (.cells #[.int .i64 a', .int .i64 b', .int .u8 c', .int .i64 d'] 40 (0, 0))) = W0 at *
  go_region_held3 (fun w' => Below w.heap.size w w' ∧ w'.cell? ⟨w.heap.size, 0, none⟩ = some (.int .i64 a) ∧ w'.cell? ⟨w.heap.size, 1, none⟩ = some (.int .i64 b) ∧ w'.cell? ⟨w.heap.size, 2, none⟩ = some (.int .u8 c) ∧ w'.cell? ⟨w.heap.size, 3, none⟩ = some (.int .i64 d) ∧
    w'.cell? ⟨w.heap.size + 1, 0, none⟩ = some (.int .i64 a') ∧ w'.cell? ⟨w.heap.size + 1, 1, none⟩ = some (.int .i64 b') ∧ w'.cell? ⟨w.heap.size + 1, 2, none⟩ = some (.int .u8 c') ∧ w'.cell? ⟨w.heap.size + 1, 3, none⟩ = some (.int .i64 d'))
    (first
      | exact HS0.out
      | assumption
      | exact LS.next (x := ⟨a, b, c, d⟩) (y := ⟨a', b', c', d'⟩) (by assumption) hB5
      | go_keep)
    ((first
      | (go_at_call 47; refine (less_lit _ _ _ _ _ _ _ _ _).mono ?_; rintro e w5 ⟨rfl, hB5⟩)
      | (go_at_call 48; refine (refLess_lit _ _ _ _ _ _ _ _ _).mono ?_; rintro e w5 ⟨rfl, hB5⟩)
      | (go_at_call 17; refine (HA.out _ (SI_below (by assumption))).mono ?_; rintro e w5 ⟨rfl, hB5⟩)))
  all_goals go_wp2
  all_goals trace_state
  all_goals
    go_ret
    exact ⟨rfl, SI_below (by assumption)⟩
end Go.Proofs.YtbfpgjnagpcbeaaGreatDoor
