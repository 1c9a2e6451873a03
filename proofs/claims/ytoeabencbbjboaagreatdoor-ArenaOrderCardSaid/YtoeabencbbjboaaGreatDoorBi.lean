/-
  WALKS: texts of base types.
-/
import Derived.Test.YtoeabencbbjboaaGreatDoorBh
namespace Go.Proofs.YtoeabencbbjboaaGreatDoor
open Go.RowKit Go.MapKept Go.Shelf

namespace Ar
def kindB (b : Bs) : ByteArray := if b.cell = true then ⟨#[99, 101, 108, 108, 32]⟩ else ⟨#[105, 110, 116, 32]⟩
def baseB (b : Bs) : ByteArray := kindB b ++ itoaB b.n
end Ar
def BsOk (b : Ar.Bs) : Prop := 0 ≤ b.n ∧ b.n ≤ 9223372036854775807
theorem baseB_size (b : Ar.Bs) (h : BsOk b) : (Ar.baseB b).size ≤ 105 := by
  have := itoaB_size b.n h.1 h.2
  unfold Ar.baseB
  rw [ByteArray.size_append]
  have : (Ar.kindB b).size ≤ 5 := by unfold Ar.kindB; split <;> simp [ByteArray.size]
  omega
set_option maxRecDepth 100000 in
set_option maxHeartbeats 4000000 in
theorem baseText_any (b : Ar.Bs) (hb : BsOk b) (w : World) (hT : GT w) : Calls Tryz.prog 59 #[.agg #[.bool b.cell, .int .i64 b.n]] w fun e w' => e = .returned (.string (Ar.baseB b)) ∧ Below w.heap.size w w' := by
  have hB0 : Below w.heap.size w (w.alloc (.cells #[.bool b.cell, .int .i64 b.n] 24 (0, 0))) := (Below.refl _ _).alloc (Nat.le_refl _) _
  have HI := Lib.hid (fun W (hB : Below w.heap.size w W) => itoa_b b.n (Int.le_trans (by omega) hb.1) hb.2 W (hT.below hB))
  have hs := itoaB_size b.n hb.1 hb.2
  have hw : Ar.baseB b = Ar.kindB b ++ Ar.itoaB b.n := rfl
  unfold Ar.kindB at hw
  generalize Ar.itoaB b.n = si at *
  have a1 : ∀ W : World, (Op.stringOp .add ⟨#[99, 101, 108, 108, 32]⟩ si).run Tryz.prog W = .ok (.string (⟨#[99, 101, 108, 108, 32]⟩ ++ si)) W := fun W => run_string_add_sum (w := W) _ _ (by have : (⟨#[99, 101, 108, 108, 32]⟩ : ByteArray).size = 5 := rfl; omega)
  have a2 : ∀ W : World, (Op.stringOp .add ⟨#[105, 110, 116, 32]⟩ si).run Tryz.prog W = .ok (.string (⟨#[105, 110, 116, 32]⟩ ++ si)) W := fun W => run_string_add_sum (w := W) _ _ (by have : (⟨#[105, 110, 116, 32]⟩ : ByteArray).size = 4 := rfl; omega)
  cases hc : b.cell
  all_goals
    rw [hc] at hw hB0
    have HW := Lib.hid hw
    clear hw hT hs
    go_enter Tryz.func59, Tryz.ntmps59
    go_wp2_with (go_at_call 94; refine (HI.out _ hB0).mono ?_; rintro e w2 ⟨rfl, hB2⟩)
    go_ret
    exact ⟨by rw [HW.out]; rfl, hB0.trans (hB2.mono hB0.size)⟩
end Go.Proofs.YtoeabencbbjboaaGreatDoor
