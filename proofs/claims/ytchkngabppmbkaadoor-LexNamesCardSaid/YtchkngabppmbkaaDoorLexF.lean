/-
  WALKS: the token or the comment at a place.
-/
import Derived.Test.YtchkngabppmbkaaDoorLexE
namespace Go.Proofs.YtchkngabppmbkaaDoor
open Go.RowKit

/-- A token as a value. -/
def tokV (k : Nat) (t : ByteArray) (p : Nat) : Value := .agg #[.int .u8 (k : Int), .string t, .int .i64 (p : Int)]

section
variable (s : ByteArray) (k b : Nat) (w : World)

set_option maxRecDepth 100000 in
set_option maxHeartbeats 2000000 in
theorem piece_note (hs : s.size ≤ 281474976710656) (hk : k < s.size) (hc : Lx.cls s[k] = 6) :
    Calls Tryd.prog 83 #[.string s, .int .i64 (k : Int), .map (some b)] w fun e w' =>
      e = .returned (.tuple #[tokV 5 (s.extract (k + 1) (Lx.runEnd Lx.notNL s (k + 1))) k, .int .i64 0]) ∧ Below w.heap.size w w' := by
  have hC := fun W => classOf_any s[k] W
  rw [hc] at hC
  have HC := Lib.hid hC; clear hC hc
  have hk1 : (k : Int) + 1 ≤ (s.size : Int) := by omega
  have hN := fun W => cutNL (s.extract (k + 1) s.size) W (by rw [ByteArray.size_extract]; omega)
  rw [show (s.extract (k + 1) s.size).extract 0 (Lx.runEnd Lx.notNL (s.extract (k + 1) s.size) 0) = s.extract (k + 1) (Lx.runEnd Lx.notNL s (k + 1)) by
    have h1 := Lx.runEnd_extract Lx.notNL s (k + 1) (by omega)
    have h2 := Lx.runEnd_le (p := Lx.notNL) (s := s) (k := k + 1) (by omega)
    rw [Lx.extract_tail _ _ _ (by omega), h1]] at hN
  generalize s.extract (k + 1) (Lx.runEnd Lx.notNL s (k + 1)) = T at *
  have HN := Lib.hid hN; clear hN
  go_enter Tryd.func83, Tryd.ntmps83
  go_wp2_with (first
    | (go_at_call 92; refine (HC.out _).mono ?_; rintro e w' ⟨rfl, rfl⟩)
    | (go_at_call 93; refine (HN.out _).mono ?_; rintro e w1 ⟨⟨x, y, rfl⟩, n, rfl⟩))
  refine bodyPost_ret (v := .tuple #[tokV 5 T k, .int .i64 0]) (by simp [tokV, results, Tryd.results83, go_sem]) rfl ⟨rfl, ?_⟩
  repeat (first | exact Below.refl _ _ | refine Below.setCell ?_ (by simp) _ | refine below_drewN ?_ _ | refine Below.alloc ?_ (by simp) _)

set_option maxRecDepth 100000 in
set_option maxHeartbeats 2000000 in
theorem piece_sign (hs : s.size ≤ 281474976710656) (hk : k < s.size) (hc : Lx.cls s[k] = 5) :
    Calls Tryd.prog 83 #[.string s, .int .i64 (k : Int), .map (some b)] w fun e w' =>
      e = .returned (.tuple #[tokV 4 (s.extract k (Lx.signEnd s k)) k, .int .i64 0]) ∧ Below w.heap.size w w' := by
  have hC := fun W => classOf_any s[k] W
  rw [hc] at hC
  have HC := Lib.hid hC; clear hC hc
  have hN := fun W => signAt_any s k W (by omega) hk
  generalize s.extract k (Lx.signEnd s k) = T at *
  have HN := Lib.hid hN; clear hN
  go_enter Tryd.func83, Tryd.ntmps83
  go_wp2_with (first
    | (go_at_call 92; refine (HC.out _).mono ?_; rintro e w' ⟨rfl, rfl⟩)
    | (go_at_call 97; refine (HN.out _).mono ?_; rintro e w1 ⟨rfl, rfl⟩))
  refine bodyPost_ret (v := .tuple #[tokV 4 T k, .int .i64 0]) (by simp [tokV, results, Tryd.results83, go_sem]) rfl ⟨rfl, ?_⟩
  exact ((Below.refl _ _).alloc (Nat.le_refl _) _).alloc (by simp) _

set_option maxRecDepth 100000 in
set_option maxHeartbeats 2000000 in
theorem piece_idle (hs : s.size ≤ 281474976710656) (hk : k < s.size) (h6 : Lx.cls s[k] ≠ 6) (h2 : Lx.cls s[k] ≠ 2) (h4 : Lx.cls s[k] ≠ 4) (h5 : Lx.cls s[k] ≠ 5) :
    Calls Tryd.prog 83 #[.string s, .int .i64 (k : Int), .map (some b)] w fun e w' =>
      e = .returned (.tuple #[tokV 0 (s.extract k (k + 1)) k, .int .i64 4]) ∧ Below w.heap.size w w' := by
  have hC := fun W => classOf_any s[k] W
  generalize Lx.cls s[k] = q at *
  have HC := Lib.hid hC; clear hC
  have hk1 : (k : Int) + 1 ≤ (s.size : Int) := by omega
  have e6 : ((q : Int) == 6) = false := by rw [beq_eq_false_iff_ne]; omega
  have e2 : ((q : Int) == 2) = false := by rw [beq_eq_false_iff_ne]; omega
  have e4 : ((q : Int) == 4) = false := by rw [beq_eq_false_iff_ne]; omega
  have e5 : ((q : Int) == 5) = false := by rw [beq_eq_false_iff_ne]; omega
  clear h6 h2 h4 h5
  go_enter Tryd.func83, Tryd.ntmps83
  go_wp2_with (first
    | (go_at_call 92; refine (HC.out _).mono ?_; rintro e w' ⟨rfl, rfl⟩))
  refine bodyPost_ret (v := .tuple #[tokV 0 (s.extract k (k + 1)) k, .int .i64 4]) (by simp [tokV, results, Tryd.results83, go_sem]) rfl ⟨rfl, ?_⟩
  exact ((Below.refl _ _).alloc (Nat.le_refl _) _).alloc (by simp) _

end
end Go.Proofs.YtchkngabppmbkaaDoor
