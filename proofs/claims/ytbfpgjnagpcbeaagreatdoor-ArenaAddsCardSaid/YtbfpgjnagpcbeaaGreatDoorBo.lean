/-
  WALKS: Less, of the program and of the reference.
-/
import Derived.Test.YtbfpgjnagpcbeaaGreatDoorBn
import Derived.Laws.Small
namespace Go.Proofs.YtbfpgjnagpcbeaaGreatDoor
open Go.RowKit Go.MapKept Go.Shelf

namespace Ar
def orOf : List Int → Int
  | [] => 0
  | x :: l => if x = 0 then orOf l else x
theorem orOf_zero : ∀ (l : List Int) (k : Nat), (∀ j, j < k → l[j]? = some 0) → orOf l = orOf (l.drop k)
  | l, 0, _ => rfl
  | [], k + 1, h => by have := h 0 (by omega); simp at this
  | x :: l, k + 1, h => by
    have h0 := h 0 (by omega)
    simp only [List.getElem?_cons_zero, Option.some.injEq] at h0
    rw [orOf, if_pos h0, List.drop_succ_cons]
    exact orOf_zero l k (fun j hj => by have := h (j + 1) (by omega); simpa using this)
theorem orOf_less (a b : Mv) : decide (orOf [Lib.compareInt a.id b.id, Lib.compareInt a.arg b.arg, Lib.compareInt a.kind b.kind, Lib.compareInt a.n b.n] < 0) = lessOf a b := by
  have c0 : ∀ x y : Int, Lib.compareInt x y = 0 ↔ x = y := fun x y => by unfold Lib.compareInt; split <;> (try split) <;> omega
  have c1 : ∀ x y : Int, Lib.compareInt x y < 0 ↔ x < y := fun x y => by unfold Lib.compareInt; split <;> (try split) <;> omega
  simp only [orOf, c0, lessOf]
  by_cases h1 : a.id = b.id
  · by_cases h2 : a.arg = b.arg
    · by_cases h3 : a.kind = b.kind
      · by_cases h4 : a.n = b.n
        · simp [h1, h2, h3, h4]
        · simp [h1, h2, h3, h4, c1]
      · simp [h1, h2, h3, c1]
    · simp [h1, h2, c1]
  · simp [h1, c1]
end Ar
def Nums (W : World) (g : Nat) (l : List Int) : Prop := ∀ i x, l[i]? = some x → W.cell? ⟨g, i, none⟩ = some (.int .i64 x)

set_option maxRecDepth 100000 in
set_option maxHeartbeats 1000000 in
theorem compareU8_any (x y : Int) (w : World) : Calls Tryz.prog 106 #[.int .u8 x, .int .u8 y] w fun e w' => e = .returned (.int .i64 (Lib.compareInt x y)) ∧ w' = w := by
  have hw : Lib.compareInt x y = if x < y then -1 else if x > y then 1 else 0 := rfl
  have HW := Lib.hid hw; clear hw
  go_enter Tryz.func106, Tryz.ntmps106
  go_wp2
  all_goals
    go_ret
    refine ⟨?_, rfl⟩
    rw [HW.out]
    repeat' split
    all_goals first | rfl | (exfalso; simp_all; omega) | simp_all

set_option maxRecDepth 100000 in
set_option maxHeartbeats 1000000 in
theorem or_any (l : List Int) (g c : Nat) (w : World) (hN : Nums w g l) (hL : l.length ≤ 1000) : Calls Tryz.prog 104 #[.slice (some ⟨g, 0, none⟩) l.length c] w fun e w' => e = .returned (.int .i64 (Ar.orOf l)) ∧ w' = w := by
  have HN := Lib.hid hN
  clear hN
  go_enter Tryz.func104, Tryz.ntmps104
  go_wp2
  go_loopw [8] (fun i wr => ∃ k : Nat, k ≤ l.length ∧ i = .int .i64 k ∧ Hid (∀ j, j < k → l[j]? = some 0) ∧ wr = w) (fun i _ => l.length - (intOf i).toNat)
  case atStart => exact ⟨0, Nat.zero_le _, rfl, fun j hj => absurd hj (Nat.not_lt_zero _), rfl⟩
  case round =>
    obtain ⟨k, hk, rfl, hz, rfl⟩ := hrel
    by_cases hlt : k < l.length
    · obtain ⟨x, hx⟩ : ∃ x, l[k]? = some x := ⟨_, List.getElem?_eq_getElem hlt⟩
      have c0 := HN.out k x hx
      have HX := Lib.hid hx
      have hv : Ar.orOf l = if x = 0 then Ar.orOf (l.drop (k + 1)) else x := by
        rw [Ar.orOf_zero l k hz.out, List.drop_eq_getElem_cons hlt, Ar.orOf]
        have : l[k] = x := by have := hx; rw [List.getElem?_eq_getElem hlt] at this; exact Option.some.inj this
        rw [this]
      by_cases h0 : x = 0
      · subst h0
        have HZ : Hid (∀ j, j < k + 1 → l[j]? = some 0) := fun j hj => by
          rcases Nat.lt_or_ge j k with h | h
          · exact hz.out j h
          · obtain rfl : j = k := by omega
            exact HX.out
        clear hx hv
        go_wp2
        go_roundw
        case rel => exact ⟨k + 1, by omega, by go_num, HZ, trivial⟩
        case measure => simp [intOf]; omega
      · have e1 : (x == 0) = false := by rw [beq_eq_false_iff_ne]; exact h0
        rw [if_neg h0] at hv
        have HV := Lib.hid hv
        clear hx hv
        go_wp2
        go_ret
        exact ⟨by rw [HV.out]; rfl, rfl⟩
    · obtain rfl : k = l.length := by omega
      have HV : Hid (Ar.orOf l = 0) := by rw [Hid, Ar.orOf_zero l l.length hz.out, List.drop_length]; rfl
      go_wp2
      go_ret
      exact ⟨by rw [HV.out]; rfl, rfl⟩
end Go.Proofs.YtbfpgjnagpcbeaaGreatDoor
