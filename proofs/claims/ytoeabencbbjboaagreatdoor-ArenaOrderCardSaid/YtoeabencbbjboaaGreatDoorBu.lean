/-
  WALKS: ArenaOrder.
-/
import Derived.Test.YtoeabencbbjboaaGreatDoorBt
namespace Go.Proofs.YtoeabencbbjboaaGreatDoor
open Go.RowKit Go.MapKept Go.Shelf

def OS (w : World) (a b c d a' b' c' d' p q r s : Int) (W : World) : Prop := Below w.heap.size w W ∧ W.cell? ⟨w.heap.size, 0, none⟩ = some (.int .i64 a) ∧ W.cell? ⟨w.heap.size, 1, none⟩ = some (.int .i64 b) ∧ W.cell? ⟨w.heap.size, 2, none⟩ = some (.int .u8 c) ∧ W.cell? ⟨w.heap.size, 3, none⟩ = some (.int .i64 d) ∧ W.cell? ⟨w.heap.size, 4, none⟩ = some (.int .i64 a') ∧ W.cell? ⟨w.heap.size, 5, none⟩ = some (.int .i64 b') ∧ W.cell? ⟨w.heap.size, 6, none⟩ = some (.int .u8 c') ∧ W.cell? ⟨w.heap.size, 7, none⟩ = some (.int .i64 d') ∧ W.cell? ⟨w.heap.size, 8, none⟩ = some (.int .i64 p) ∧ W.cell? ⟨w.heap.size, 9, none⟩ = some (.int .i64 q) ∧ W.cell? ⟨w.heap.size, 10, none⟩ = some (.int .u8 r) ∧ W.cell? ⟨w.heap.size, 11, none⟩ = some (.int .i64 s)
theorem OS.next {w W W' : World} {a b c d a' b' c' d' p q r s : Int} (h : OS w a b c d a' b' c' d' p q r s W) (hB : Below W.heap.size W W') : OS w a b c d a' b' c' d' p q r s W' := by
  obtain ⟨h0, x0, x1, x2, x3, x4, x5, x6, x7, x8, x9, x10, x11⟩ := h
  exact ⟨h0.trans (hB.mono h0.size), keep_cell hB x0, keep_cell hB x1, keep_cell hB x2, keep_cell hB x3, keep_cell hB x4, keep_cell hB x5, keep_cell hB x6, keep_cell hB x7, keep_cell hB x8, keep_cell hB x9, keep_cell hB x10, keep_cell hB x11⟩
theorem cells12 {W : World} {B : Nat} {a b c d a' b' c' d' p q r s : Int} {t : TypeId} (h : W.heap[B]? = some (.cells #[.int .i64 a, .int .i64 b, .int .u8 c, .int .i64 d, .int .i64 a', .int .i64 b', .int .u8 c', .int .i64 d', .int .i64 p, .int .i64 q, .int .u8 r, .int .i64 s] t (0, 0))) : W.cell? ⟨B, 0, none⟩ = some (.int .i64 a) ∧ W.cell? ⟨B, 1, none⟩ = some (.int .i64 b) ∧ W.cell? ⟨B, 2, none⟩ = some (.int .u8 c) ∧ W.cell? ⟨B, 3, none⟩ = some (.int .i64 d) ∧ W.cell? ⟨B, 4, none⟩ = some (.int .i64 a') ∧ W.cell? ⟨B, 5, none⟩ = some (.int .i64 b') ∧ W.cell? ⟨B, 6, none⟩ = some (.int .u8 c') ∧ W.cell? ⟨B, 7, none⟩ = some (.int .i64 d') ∧ W.cell? ⟨B, 8, none⟩ = some (.int .i64 p) ∧ W.cell? ⟨B, 9, none⟩ = some (.int .i64 q) ∧ W.cell? ⟨B, 10, none⟩ = some (.int .u8 r) ∧ W.cell? ⟨B, 11, none⟩ = some (.int .i64 s) := by
  refine ⟨?_, ?_, ?_, ?_, ?_, ?_, ?_, ?_, ?_, ?_, ?_, ?_⟩ <;> simp [World.cell?, h]
theorem order_cases (x y z : Ar.Mv) : (x = y ∧ mvEq x y = true ∧ Ar.lessOf x y = false ∧ Ar.lessOf y x = false) ∨
    (mvEq x y = false ∧ Ar.lessOf x y = false ∧ Ar.lessOf y x = true) ∨ (mvEq x y = false ∧ Ar.lessOf x y = true ∧ Ar.lessOf y x = false ∧ Ar.lessOf y z = false) ∨
    (mvEq x y = false ∧ Ar.lessOf x y = true ∧ Ar.lessOf y x = false ∧ Ar.lessOf y z = true ∧ Ar.lessOf x z = true) := by
  have ht := Ar.lessOf_total x y
  have ha := Ar.lessOf_asymm x y
  have hr := Ar.lessOf_trans x y z
  by_cases e : x = y
  · have := ht.2 e
    exact .inl ⟨e, by rw [mvEq_iff]; exact decide_eq_true e, this.1, this.2⟩
  · have e1 : mvEq x y = false := by rw [mvEq_iff]; exact decide_eq_false e
    cases h1 : Ar.lessOf x y
    · cases h2 : Ar.lessOf y x
      · exact absurd (ht.1 ⟨h1, h2⟩) e
      · exact .inr (.inl ⟨e1, rfl, rfl⟩)
    · have h2 : Ar.lessOf y x = false := by rw [h1] at ha; simpa using ha
      cases h3 : Ar.lessOf y z
      · exact .inr (.inr (.inl ⟨e1, rfl, h2, rfl⟩))
      · exact .inr (.inr (.inr ⟨e1, rfl, h2, rfl, hr h1 h3⟩))
set_option maxRecDepth 100000 in
set_option maxHeartbeats 8000000 in
theorem law_order (a b c d a' b' c' d' p q r s : Int) (w : World) (hV : GV w) (hG : GT w) : Calls Tryz.prog 13 #[.agg #[.int .i64 a, .int .i64 b, .int .u8 c, .int .i64 d, .int .i64 a', .int .i64 b', .int .u8 c', .int .i64 d', .int .i64 p, .int .i64 q, .int .u8 r, .int .i64 s]] w fun e w' => e = .returned (.bool true) ∧ Below w.heap.size w w' := by
  have hB0 : Below w.heap.size w (w.alloc (.cells #[.int .i64 a, .int .i64 b, .int .u8 c, .int .i64 d, .int .i64 a', .int .i64 b', .int .u8 c', .int .i64 d', .int .i64 p, .int .i64 q, .int .u8 r, .int .i64 s] 72 (0, 0))) := (Below.refl _ _).alloc (Nat.le_refl _) _
  have hS0 : OS w a b c d a' b' c' d' p q r s (w.alloc (.cells #[.int .i64 a, .int .i64 b, .int .u8 c, .int .i64 d, .int .i64 a', .int .i64 b', .int .u8 c', .int .i64 d', .int .i64 p, .int .i64 q, .int .u8 r, .int .i64 s] 72 (0, 0))).drew := ⟨hB0.drew, cells12 (World.alloc_heap_new w (.cells #[.int .i64 a, .int .i64 b, .int .u8 c, .int .i64 d, .int .i64 a', .int .i64 b', .int .u8 c', .int .i64 d', .int .i64 p, .int .i64 q, .int .u8 r, .int .i64 s] 72 (0, 0)))⟩
  have HS0 := Lib.hid hS0
  have HA := Lib.hid (fun W (hB : Below w.heap.size w W) => awake_any W (hV.below hB) (hG.below hB))
  have qe := fun W => run_eql_mv W ⟨a, b, c, d⟩ ⟨a', b', c', d'⟩
  have qg : ∀ (x y : Operand) (xs ys : Array Value) (w : World), (eqGuard .eql 40 x y (.agg xs) (.agg ys)).run Tryz.prog w = .ok () w := fun x y xs ys w => run_eqGuard_agg w _ _ x y xs ys (by kernel_rfl)
  have hcs := order_cases ⟨a, b, c, d⟩ ⟨a', b', c', d'⟩ ⟨p, q, r, s⟩
  clear hS0 hB0 hV hG
  obtain ⟨E, hE⟩ : ∃ E, mvEq ⟨a, b, c, d⟩ ⟨a', b', c', d'⟩ = E := ⟨_, rfl⟩
  obtain ⟨ab, hab⟩ : ∃ E, Ar.lessOf ⟨a, b, c, d⟩ ⟨a', b', c', d'⟩ = E := ⟨_, rfl⟩
  obtain ⟨ba, hba⟩ : ∃ E, Ar.lessOf ⟨a', b', c', d'⟩ ⟨a, b, c, d⟩ = E := ⟨_, rfl⟩
  obtain ⟨bc, hbc⟩ : ∃ E, Ar.lessOf ⟨a', b', c', d'⟩ ⟨p, q, r, s⟩ = E := ⟨_, rfl⟩
  obtain ⟨ac, hac⟩ : ∃ E, Ar.lessOf ⟨a, b, c, d⟩ ⟨p, q, r, s⟩ = E := ⟨_, rfl⟩
  have hcs2 : (E = true ∧ ab = false ∧ ba = false) ∨ (E = false ∧ ab = false ∧ ba = true) ∨ (E = false ∧ ab = true ∧ ba = false ∧ bc = false) ∨ (E = false ∧ ab = true ∧ ba = false ∧ bc = true ∧ ac = true) := by
    rw [hE, hab, hba, hbc, hac] at hcs
    rcases hcs with ⟨_, h⟩ | h | h | h
    · exact .inl h
    · exact .inr (.inl h)
    · exact .inr (.inr (.inl h))
    · exact .inr (.inr (.inr h))
  clear hcs
  simp only [hE] at qe
  clear hE
  have HT := Lib.hid hcs2
  clear hcs2
  go_enter Tryz.func13, Tryz.ntmps13
  go_wp2
  generalize (w.alloc (.cells #[.int .i64 a, .int .i64 b, .int .u8 c, .int .i64 d, .int .i64 a', .int .i64 b', .int .u8 c', .int .i64 d', .int .i64 p, .int .i64 q, .int .u8 r, .int .i64 s] 72 (0, 0))) = W0 at *
  go_region_held3 (fun w' => Below w.heap.size w w' ∧ w'.cell? ⟨w.heap.size, 0, none⟩ = some (.int .i64 a) ∧ w'.cell? ⟨w.heap.size, 1, none⟩ = some (.int .i64 b) ∧ w'.cell? ⟨w.heap.size, 2, none⟩ = some (.int .u8 c) ∧ w'.cell? ⟨w.heap.size, 3, none⟩ = some (.int .i64 d) ∧ w'.cell? ⟨w.heap.size, 4, none⟩ = some (.int .i64 a') ∧ w'.cell? ⟨w.heap.size, 5, none⟩ = some (.int .i64 b') ∧ w'.cell? ⟨w.heap.size, 6, none⟩ = some (.int .u8 c') ∧ w'.cell? ⟨w.heap.size, 7, none⟩ = some (.int .i64 d') ∧ w'.cell? ⟨w.heap.size, 8, none⟩ = some (.int .i64 p) ∧ w'.cell? ⟨w.heap.size, 9, none⟩ = some (.int .i64 q) ∧ w'.cell? ⟨w.heap.size, 10, none⟩ = some (.int .u8 r) ∧ w'.cell? ⟨w.heap.size, 11, none⟩ = some (.int .i64 s))
    (first
      | exact HS0.out
      | assumption
      | exact OS.next (by assumption) hB5
      | go_keep)
    ((first
      | (go_at_call 47; refine (less_lit _ _ _ _ _ _ _ _ _).mono ?_; rintro e w5 ⟨rfl, hB5⟩)))
  have HB := Lib.hid (show OS w a b c d a' b' c' d' p q r s w5 by assumption)
  rcases HT.out with ⟨rfl, rfl, rfl⟩ | ⟨rfl, rfl, rfl⟩ | ⟨rfl, rfl, rfl, rfl⟩ | ⟨rfl, rfl, rfl, rfl, rfl⟩
  all_goals
    have hBx := HB.out.1
    obtain ⟨-, x0, x1, x2, x3, x4, x5, x6, x7, x8, x9, x10, x11⟩ := HB.out
    go_wp2_with (go_at_call 17; refine (HA.out _ hBx).mono ?_; rintro e w6 ⟨rfl, hB6⟩)
    go_ret
    exact ⟨rfl, hBx.trans (hB6.mono hBx.size)⟩
end Go.Proofs.YtoeabencbbjboaaGreatDoor
