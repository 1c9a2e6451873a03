/-
  WALKS: whether an arena is right.
-/
import Derived.Test.YtepdlghobopdbaaGreatDoorAl
namespace Go.Proofs.YtepdlghobopdbaaGreatDoor
open Go.RowKit Go.Shelf

theorem ret_int {k : IntKind} {a b : Int} (h : a = b) : Ending.returned (.int k a) = .returned (.int k b) := by rw [h]
theorem ret_bool {a b : Bool} (h : a = b) : Ending.returned (.bool a) = .returned (.bool b) := by rw [h]
def SomeIdx (R : Bool) (e : Ending) : Prop := ∃ r : Int, e = .returned (.int .i64 r) ∧ decide (0 ≤ r) = R
def bsV (b : Ar.Bs) : Value := .agg #[.bool b.cell, .int .i64 b.n]
def tyV (PA : Option Addr) (pc : Nat) (t : Ar.Ty) : Value := .agg #[.slice PA t.params.length pc, .bool t.result.cell, .int .i64 t.result.n]

set_option maxRecDepth 100000 in
set_option maxHeartbeats 1000000 in
theorem isWrongBase_any (b : Ar.Bs) (w : World) : Calls Tryz.prog 82 #[bsV b] w fun e w' => e = .returned (.bool (Ar.wrongBase b)) ∧ Below w.heap.size w w' := by
  have hw : Ar.wrongBase b = (decide (b.n < 1) || decide (64 < b.n)) := rfl
  have HW := Lib.hid hw; clear hw
  unfold bsV
  by_cases h1 : b.n < 1
  · have HQ : Hid (Ar.wrongBase b = true) := by rw [Hid, HW.out, decide_eq_true h1]; rfl
    clear HW
    go_enter Tryz.func82, Tryz.ntmps82
    go_wp2
    go_ret
    exact ⟨ret_bool HQ.out.symm, by repeat (first | assumption | exact Below.refl _ _ | refine Below.alloc ?_ (by first | omega | (simp; omega) | simp) _)⟩
  · have HQ : Hid (Ar.wrongBase b = decide (64 < b.n)) := by rw [Hid, HW.out, decide_eq_false h1]; rfl
    clear HW
    go_enter Tryz.func82, Tryz.ntmps82
    go_wp2
    go_ret
    exact ⟨ret_bool HQ.out.symm, by repeat (first | assumption | exact Below.refl _ _ | refine Below.alloc ?_ (by first | omega | (simp; omega) | simp) _)⟩

set_option maxRecDepth 100000 in
set_option maxHeartbeats 2000000 in
theorem indexB_any (l : List Ar.Bs) (A : Option Addr) (c : Nat) (w : World) (hL : l.length ≤ 1000000) (hT : Bas w w.heap.size A l) : Calls Tryz.prog 110 #[.slice A l.length c, .func (.func 82) #[] #[]] w (fun e w' => SomeIdx (l.any Ar.wrongBase) e ∧ Below w.heap.size w w') := by
  have HT := Lib.hid hT; have HL := Lib.hid hL; clear hT
  obtain ⟨R, hR⟩ : ∃ R, l.any Ar.wrongBase = R := ⟨_, rfl⟩
  rw [hR]
  have HR := Lib.hid hR; clear hR
  go_enter Tryz.func110, Tryz.ntmps110
  go_wp2
  go_loopw [8] (fun i wr => ∃ k : Nat, k ≤ l.length ∧ i = .int .i64 k ∧ Hid (R = (l.drop k).any Ar.wrongBase) ∧ Below w.heap.size w wr) (fun i _ => l.length - (intOf i).toNat)
  case atStart => exact ⟨0, Nat.zero_le _, rfl, HR.out.symm, Below.refl _ _⟩
  case round =>
    obtain ⟨k, hk, rfl, hr, hB⟩ := hrel
    by_cases hlt : k < l.length
    · obtain ⟨x, hx⟩ : ∃ x, l[k]? = some x := ⟨_, List.getElem?_eq_getElem hlt⟩
      obtain ⟨b, off, hA, hbB, hc⟩ := (HT.out.below hB) (by intro e; rw [e] at hlt; simp at hlt)
      obtain ⟨c0, c1⟩ := hc k x hx
      have hr' := hr.out
      rw [Ar.drop_of_get hx, List.any_cons] at hr'
      have HX := Lib.hid hx
      clear hr hx hc
      subst hA
      have HP := Lib.hid (fun (W : World) (_ : Below w.heap.size w W) => isWrongBase_any x W)
      unfold bsV at HP
      cases hp : Ar.wrongBase x
      all_goals
        rw [hp] at hr' HP
        simp only [Bool.false_or, Bool.true_or] at hr'
        have HQ := Lib.hid hr'; clear hr' hp
        go_wp2_with (go_at_call 82; refine (HP.out wr hB).mono ?_; rintro e w2 ⟨rfl, hB2⟩)
        first
          | (go_ret; exact ⟨⟨k, rfl, by rw [HQ.out]; simp⟩, hB.trans (hB2.mono hB.size)⟩)
          | (go_roundw
             case rel => exact ⟨k + 1, by omega, by go_num, HQ.out, hB.trans (hB2.mono hB.size)⟩
             case measure => simp [intOf]; omega)
    · obtain rfl : k = l.length := by omega
      have hr' := hr.out
      rw [List.drop_length, List.any_nil] at hr'
      have HQ := Lib.hid hr'; clear hr hr'
      go_wp2
      go_ret
      exact ⟨⟨-1, rfl, by rw [HQ.out]; rfl⟩, hB⟩

set_option maxRecDepth 100000 in
set_option maxHeartbeats 2000000 in
theorem containsB_any (l : List Ar.Bs) (A : Option Addr) (c : Nat) (w : World) (hL : l.length ≤ 1000000) (hT : Bas w w.heap.size A l) : Calls Tryz.prog 99 #[.slice A l.length c, .func (.func 82) #[] #[]] w (fun e w' => e = .returned (.bool (l.any Ar.wrongBase)) ∧ Below w.heap.size w w') := by
  have HI := Lib.hid (indexB_any l A c w hL hT)
  clear hT
  go_enter Tryz.func99, Tryz.ntmps99
  go_wp2_with (go_at_call 110; refine HI.out.mono ?_; rintro e w2 ⟨⟨r, rfl, hr⟩, hB⟩; have HR := Lib.hid hr; clear hr)
  go_ret
  exact ⟨ret_bool (by rw [← HR.out]), hB⟩

theorem cells3 {W : World} {b : Nat} {x y z : Value} {t : TypeId} {f : Nat × Nat} (h : W.heap[b]? = some (.cells #[x, y, z] t f)) : W.cell? ⟨b, 0, none⟩ = some x ∧ W.cell? ⟨b, 1, none⟩ = some y ∧ W.cell? ⟨b, 2, none⟩ = some z :=
  ⟨by simp [World.cell?, h], by simp [World.cell?, h], by simp [World.cell?, h]⟩
set_option maxRecDepth 100000 in
set_option maxHeartbeats 1000000 in
theorem isLongType_any (PA : Option Addr) (pc : Nat) (t : Ar.Ty) (w : World) (h5 : t.params.length ≤ 1000000) : Calls Tryz.prog 81 #[tyV PA pc t] w fun e w' => e = .returned (.bool (Ar.longType t)) ∧ Below w.heap.size w w' := by
  have hw : Ar.longType t = decide (5 < t.params.length) := rfl
  have HW := Lib.hid hw; clear hw
  unfold tyV
  go_enter Tryz.func81, Tryz.ntmps81
  go_wp2
  go_ret
  exact ⟨ret_bool (by rw [HW.out]; exact Bool.eq_iff_iff.2 (by simp only [decide_eq_true_eq]; omega)), by repeat (first | assumption | exact Below.refl _ _ | refine Below.alloc ?_ (by first | omega | (simp; omega) | simp) _)⟩
set_option maxRecDepth 100000 in
set_option maxHeartbeats 2000000 in
theorem isWrongType_any (PA : Option Addr) (pc : Nat) (t : Ar.Ty) (w : World) (h5 : t.params.length ≤ 1000000) (hT : Bas w w.heap.size PA t.params) : Calls Tryz.prog 83 #[tyV PA pc t] w fun e w' => e = .returned (.bool (Ar.wrongType t)) ∧ Below w.heap.size w w' := by
  have hw : Ar.wrongType t = (Ar.wrongBase t.result || t.params.any Ar.wrongBase || (t.result.cell && decide (0 < t.params.length))) := rfl
  have HW := Lib.hid hw; clear hw
  have HB := Lib.hid (fun W => isWrongBase_any t.result W)
  have hC : ∀ W, Below w.heap.size w W → Calls Tryz.prog 99 #[.slice PA t.params.length pc, .func (.func 82) #[] #[]] W (fun e w' => e = .returned (.bool (t.params.any Ar.wrongBase)) ∧ Below W.heap.size W w') := fun W hB => containsB_any t.params PA pc W h5 ((hT.below hB).mono hB.size)
  have HC := Lib.hid hC; clear hC hT
  unfold tyV
  unfold bsV at HB
  have ht0 := World.alloc_heap_new w (tyO PA pc t)
  unfold tyO at ht0
  have HT0 := Lib.hid ht0; clear ht0
  cases h1 : Ar.wrongBase t.result
  all_goals
    rw [h1] at HB HW
    simp only [Bool.false_or, Bool.true_or] at HW
    clear h1
    cases h2 : t.params.any Ar.wrongBase
    all_goals
      rw [h2] at HC
      try rw [h2] at HW
      try simp only [Bool.false_or, Bool.true_or] at HW
      clear h2
      cases h3 : t.result.cell
      all_goals
        rw [h3] at HB HT0
        try rw [h3] at HW
        try simp only [Bool.false_and, Bool.true_and] at HW
        clear h3
        go_enter Tryz.func83, Tryz.ntmps83
        go_wp2_with (first
          | (go_at_call 99; refine (HC.out w2 hBw2).mono ?_; rintro e w3 ⟨rfl, hB3⟩; have hBw3 := hBw2.trans (hB3.mono hBw2.size); obtain ⟨e0, e1, e2⟩ := cells3 ((hB3.block _ (lt_of_heap hk2.out)).trans hk2.out))
          | (go_at_call 82; refine (HB.out _).mono ?_; rintro e w2 ⟨rfl, hB2⟩; have hBw2 := ((Below.refl w.heap.size w).alloc (Nat.le_refl _) _).trans (hB2.mono (by simp)); have hk2 := Lib.hid ((hB2.block w.heap.size (by simp)).trans HT0.out); obtain ⟨d0, d1, d2⟩ := cells3 hk2.out))
        go_ret
        exact ⟨ret_bool (by rw [HW.out]; try simp), by first | exact hBw3 | exact hBw2⟩
end Go.Proofs.YtepdlghobopdbaaGreatDoor
