/-
  WALKS: typeText.
-/
import Derived.Test.YtoeabencbbjboaaGreatDoorBk
namespace Go.Proofs.YtoeabencbbjboaaGreatDoor
open Go.RowKit Go.MapKept Go.Shelf

def TyOk (t : Ar.Ty) : Prop := (∀ x ∈ t.params, BsOk x) ∧ BsOk t.result ∧ t.params.length ≤ 1000000
def TyS (w : World) (b : Nat) (A : Option Addr) (n c : Nat) (rc : Bool) (rn : Int) (W : World) : Prop := Below w.heap.size w W ∧ W.cell? ⟨b, 0, none⟩ = some (.slice A n c) ∧ W.cell? ⟨b, 1, none⟩ = some (.bool rc) ∧ W.cell? ⟨b, 2, none⟩ = some (.int .i64 rn)
theorem TyS.next {w W W' : World} {b : Nat} {A : Option Addr} {n c : Nat} {rc : Bool} {rn : Int} (h : TyS w b A n c rc rn W) (hB : Below W.heap.size W W') : TyS w b A n c rc rn W' :=
  ⟨h.1.trans (hB.mono h.1.size), keep_cell hB h.2.1, keep_cell hB h.2.2.1, keep_cell hB h.2.2.2⟩
theorem cells3b {W : World} {b : Nat} {x y z : Value} {t : TypeId} (h : W.heap[b]? = some (.cells #[x, y, z] t (0, 0))) : W.cell? ⟨b, 0, none⟩ = some x ∧ W.cell? ⟨b, 1, none⟩ = some y ∧ W.cell? ⟨b, 2, none⟩ = some z :=
  ⟨by simp [World.cell?, h], by simp [World.cell?, h], by simp [World.cell?, h]⟩

theorem typeB_size (t : Ar.Ty) (h : TyOk t) : (Ar.typeB t).size ≤ 107000120 := by
  have h1 := baseB_size t.result h.2.1
  have h2 := joinB_size (t.params.map Ar.baseB) ⟨#[44, 32]⟩ 105 (fun x hx => by obtain ⟨y, hy, rfl⟩ := List.mem_map.1 hx; exact baseB_size y (h.1 y hy))
  rw [List.length_map] at h2
  have h3 : t.params.length * (105 + (⟨#[44, 32]⟩ : ByteArray).size) ≤ 1000000 * 107 := Nat.mul_le_mul h.2.2 (Nat.le_refl _)
  unfold Ar.typeB
  split
  · omega
  · rw [ByteArray.size_append, ByteArray.size_append, ByteArray.size_append]
    have e1 : (⟨#[40]⟩ : ByteArray).size = 1 := rfl
    have e2 : (⟨#[41, 32, 45, 62, 32]⟩ : ByteArray).size = 5 := rfl
    omega

set_option maxRecDepth 100000 in
set_option maxHeartbeats 8000000 in
theorem typeText_any (t : Ar.Ty) (A : Option Addr) (c : Nat) (w : World) (hT : Bas w w.heap.size A t.params) (hO : TyOk t) (hG : GT w) :
    Calls Tryz.prog 61 #[.agg #[.slice A t.params.length c, .bool t.result.cell, .int .i64 t.result.n]] w fun e w' => e = .returned (.string (Ar.typeB t)) ∧ Below w.heap.size w w' := by
  have hB0 : Below w.heap.size w (w.alloc (.cells #[.slice A t.params.length c, .bool t.result.cell, .int .i64 t.result.n] 64 (0, 0))) := (Below.refl _ _).alloc (Nat.le_refl _) _
  have j0 := Lib.hid (World.alloc_heap_new w (.cells #[.slice A t.params.length c, .bool t.result.cell, .int .i64 t.result.n] 64 (0, 0)))
  have HX := Lib.hid (fun W (hB : Below w.heap.size w W) => baseText_any t.result hO.2.1 W (hG.below hB))
  have hrs := baseB_size t.result hO.2.1
  by_cases h0 : t.params.length = 0
  · have HW : Hid (Ar.typeB t = Ar.baseB t.result) := by unfold Ar.typeB; rw [Hid, if_pos h0]
    rw [h0] at hB0 j0 ⊢
    clear hT hO hG hrs
    generalize Ar.baseB t.result = rb at *
    generalize t.result.cell = rc at *
    generalize t.result.n = rn at *
    go_enter Tryz.func61, Tryz.ntmps61
    go_wp2_with (go_at_call 59; refine (HX.out _ hB0).mono ?_; rintro e w2 ⟨rfl, hB2⟩)
    go_ret
    exact ⟨by rw [HW.out]; rfl, hB0.trans (hB2.mono hB0.size)⟩
  · have HE := Lib.hid (fun W (hB : Below w.heap.size w W) => each_base t.params A c W ((hT.below hB).mono hB.size) hO.1 (hG.below hB) hO.2.2)
    have hps := joinB_size (t.params.map Ar.baseB) ⟨#[44, 32]⟩ 105 (fun x hx => by obtain ⟨y, hy, rfl⟩ := List.mem_map.1 hx; exact baseB_size y (hO.1 y hy))
    rw [List.length_map] at hps
    have h3 : t.params.length * (105 + (⟨#[44, 32]⟩ : ByteArray).size) ≤ 1000000 * 107 := Nat.mul_le_mul hO.2.2 (Nat.le_refl _)
    have HJ0 := Lib.hid (fun v W (h : World.ownsRow W 0 9 1 v (t.params.map Ar.baseB).length ((t.params.map Ar.baseB).map .string)) => join_row (t.params.map Ar.baseB) ⟨#[44, 32]⟩ v 0 105 W h (fun x hx => by obtain ⟨y, hy, rfl⟩ := List.mem_map.1 hx; exact baseB_size y (hO.1 y hy)) (by rw [List.length_map]; have := hO.2.2; omega) (by have : (⟨#[44, 32]⟩ : ByteArray).size = 2 := rfl; omega))
    have HOW := Lib.hid (fun (W : World) v b (h : W.ownsRow b 9 1 v t.params.length (t.params.flatMap baseCell)) => (show W.ownsRow 0 9 1 v (t.params.map Ar.baseB).length ((t.params.map Ar.baseB).map .string) by
      rw [← row_map, List.length_map]
      refine ⟨h.1, h.2.imp id ?_⟩
      rintro ⟨g, cap, cur, h1, _, h2⟩
      exact ⟨g, cap, cur, h1, Nat.zero_le _, h2⟩))
    have hw : Ar.typeB t = ⟨#[40]⟩ ++ Ar.joinB (t.params.map Ar.baseB) ⟨#[44, 32]⟩ ++ ⟨#[41, 32, 45, 62, 32]⟩ ++ Ar.baseB t.result := by unfold Ar.typeB; rw [if_neg h0]
    have hn0 : ((t.params.length : Int) == 0) = false := by rw [beq_eq_false_iff_ne]; omega
    have HW := Lib.hid hw
    generalize Ar.joinB (t.params.map Ar.baseB) ⟨#[44, 32]⟩ = pj at *
    generalize Ar.baseB t.result = rb at *
    have z1 : (⟨#[40]⟩ : ByteArray).size = 1 := rfl
    have z2 : (⟨#[41, 32, 45, 62, 32]⟩ : ByteArray).size = 5 := rfl
    have a1 : ∀ W : World, (Op.stringOp .add ⟨#[40]⟩ pj).run Tryz.prog W = .ok (.string (⟨#[40]⟩ ++ pj)) W := fun W => run_string_add_sum (w := W) _ _ (by omega)
    have z3 : (⟨#[40]⟩ ++ pj : ByteArray).size ≤ 107000001 := by rw [ByteArray.size_append]; omega
    have a2 : ∀ W : World, (Op.stringOp .add (⟨#[40]⟩ ++ pj) ⟨#[41, 32, 45, 62, 32]⟩).run Tryz.prog W = .ok (.string (⟨#[40]⟩ ++ pj ++ ⟨#[41, 32, 45, 62, 32]⟩)) W := fun W => run_string_add_sum (w := W) _ _ (by omega)
    have z4 : (⟨#[40]⟩ ++ pj ++ ⟨#[41, 32, 45, 62, 32]⟩ : ByteArray).size ≤ 107000006 := by rw [ByteArray.size_append]; omega
    have a3 : ∀ W : World, (Op.stringOp .add (⟨#[40]⟩ ++ pj ++ ⟨#[41, 32, 45, 62, 32]⟩) rb).run Tryz.prog W = .ok (.string (⟨#[40]⟩ ++ pj ++ ⟨#[41, 32, 45, 62, 32]⟩ ++ rb)) W := fun W => run_string_add_sum (w := W) _ _ (by omega)
    obtain ⟨r0, r1, r2⟩ := cells3b j0.out
    have hS0 : TyS w w.heap.size A t.params.length c t.result.cell t.result.n (w.alloc (.cells #[.slice A t.params.length c, .bool t.result.cell, .int .i64 t.result.n] 64 (0, 0))).drew := ⟨hB0.drew, r0, r1, r2⟩
    have HS0 := Lib.hid hS0
    clear hT hO hG hrs hps h3 hw z1 z2 z3 z4 hS0 r0 r1 r2
    generalize t.result.cell = rc at *
    generalize t.result.n = rn at *
    go_enter Tryz.func61, Tryz.ntmps61
    go_wp2
    generalize (w.alloc (.cells #[.slice A t.params.length c, .bool rc, .int .i64 rn] 64 (0, 0))) = W0 at *
    go_region_held3 (fun w' => Below w.heap.size w w' ∧ w'.cell? ⟨w.heap.size, 0, none⟩ = some (.slice A t.params.length c) ∧ w'.cell? ⟨w.heap.size, 1, none⟩ = some (.bool rc) ∧ w'.cell? ⟨w.heap.size, 2, none⟩ = some (.int .i64 rn))
      (first
        | exact HS0.out
        | exact TyS.next (by assumption) hB9
        | exact TyS.next (by assumption) hB8
        | exact TyS.next (by assumption) hB7
        | go_keep)
      ((first
        | (go_at_call 62; refine (HJ.out _ (Below.refl _ _)).mono ?_; rintro e w9 ⟨rfl, hB9⟩)
        | (go_at_call 112; refine (HE.out _ (SI_below (by assumption))).mono ?_; rintro e w7 ⟨v, rfl, ho, hB7⟩; have HO := Lib.hid ho; clear ho; have HJ := Lib.hid (fun W' (hb : Below w7.heap.size w7 W') => HJ0.out v W' (HOW.out W' v _ (own_ext HO.out (Ext.of_below hb (Nat.le_refl _))))))
        | (go_at_call 59; refine (HX.out _ (SI_below (by assumption))).mono ?_; rintro e w8 ⟨rfl, hB8⟩; try have HJ := Lib.hid (fun W' (hb : Below w8.heap.size w8 W') => HJ.out W' (hB8.trans (hb.mono hB8.size))))))
    all_goals go_wp2
    all_goals
      go_ret
      exact ⟨by rw [HW.out]; rfl, SI_below (by assumption)⟩
end Go.Proofs.YtoeabencbbjboaaGreatDoor
