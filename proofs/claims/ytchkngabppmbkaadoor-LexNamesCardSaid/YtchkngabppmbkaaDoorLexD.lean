/-
  WALKS: a comment's end; signs; names; numbers.
-/
import Derived.Test.YtchkngabppmbkaaDoorLexC
import Derived.WalkSmall
import Derived.WalkSpells
import Derived.Deep.RegionWith
namespace Go.Proofs.YtchkngabppmbkaaDoor
open Go.RowKit

set_option maxRecDepth 100000 in
set_option maxHeartbeats 1000000 in
theorem cutNL_inner (r : ByteArray) (w : World) (hs : r.size ≤ 4611686018427387904) :
    Calls Tryd.prog 109 #[.string r, .string ⟨#[10]⟩] w fun e w' =>
      (∃ x y, e = .returned (.tuple #[.string (r.extract 0 (Lx.runEnd Lx.notNL r 0)), .string x, .bool y])) ∧ ∃ n, w' = w.drewN n := by
  have hcon := Tryd.stringslite_Index_one r 10 w
  rcases Lx.nl_cases r with ⟨i, h1, h2, h3⟩ | ⟨h1, h3⟩
  · rw [h1] at hcon
    rw [h3]
    have HC := Lib.hid hcon
    clear hcon h1 h3
    go_enter Tryd.func109, Tryd.ntmps109
    go_wp2_with (go_at_call 114; refine HC.out.mono ?_; rintro e w' ⟨rfl, rfl⟩)
    go_quiet (fail)
    go_wp2
    go_ret3
    exact ⟨⟨_, _, rfl⟩, _, rfl⟩
  · rw [h1] at hcon
    rw [h3, Lx.extract_all]
    have HC := Lib.hid hcon
    clear hcon h1 h3
    go_enter Tryd.func109, Tryd.ntmps109
    go_wp2_with (go_at_call 114; refine HC.out.mono ?_; rintro e w' ⟨rfl, rfl⟩)
    go_ret3
    exact ⟨⟨_, _, rfl⟩, 0, rfl⟩

set_option maxRecDepth 100000 in
set_option maxHeartbeats 1000000 in
theorem cutNL (r : ByteArray) (w : World) (hs : r.size ≤ 4611686018427387904) :
    Calls Tryd.prog 93 #[.string r, .string ⟨#[10]⟩] w fun e w' =>
      (∃ x y, e = .returned (.tuple #[.string (r.extract 0 (Lx.runEnd Lx.notNL r 0)), .string x, .bool y])) ∧ ∃ n, w' = w.drewN n := by
  have HC := Lib.hid (cutNL_inner r w hs)
  generalize r.extract 0 (Lx.runEnd Lx.notNL r 0) = q at *
  go_enter Tryd.func93, Tryd.ntmps93
  go_wp2_with (go_at_call 109; refine HC.out.mono ?_; rintro e w' ⟨⟨x, y, rfl⟩, n, rfl⟩)
  go_ret3
  exact ⟨⟨_, _, rfl⟩, _, rfl⟩

set_option maxRecDepth 100000 in
set_option maxHeartbeats 1000000 in
theorem nameError_any (t : ByteArray) (w : World) : Calls Tryd.prog 95 #[.string t] w fun e w' => e = .returned (.int .i64 (Lx.nameErr t : Int)) ∧ w = w' := by
  unfold Lx.nameErr
  by_cases h : 12 < t.size
  · rw [if_pos h]
    go_enter Tryd.func95, Tryd.ntmps95
    go_wp2
    go_ret
    exact ⟨rfl, rfl⟩
  · rw [if_neg h]
    go_enter Tryd.func95, Tryd.ntmps95
    go_wp2
    go_ret
    exact ⟨rfl, rfl⟩

theorem ret_str {a b : ByteArray} (h : a = b) : Ending.returned (.string a) = .returned (.string b) := by rw [h]

set_option maxRecDepth 100000 in
set_option maxHeartbeats 1000000 in
theorem signAt_any (s : ByteArray) (k : Nat) (w : World) (hs : s.size ≤ 4611686018427387904) (hk : k < s.size) :
    Calls Tryd.prog 97 #[.string s, .int .i64 (k : Int)] w fun e w' => e = .returned (.string (s.extract k (Lx.signEnd s k))) ∧ w = w' := by
  have h1 := (Tryd.strings_HasPrefix (s.extract k s.size) ⟨#[58, 61]⟩ w).mono (R' := fun e w' => e = .returned (.bool (Lib.hasPrefix (s.extract k s.size).data.toList [58, 61])) ∧ w = w') (fun _ _ h => ⟨h.1, h.2.symm⟩)
  have h2 := (Tryd.strings_HasPrefix (s.extract k s.size) ⟨#[45, 62]⟩ w).mono (R' := fun e w' => e = .returned (.bool (Lib.hasPrefix (s.extract k s.size).data.toList [45, 62])) ∧ w = w') (fun _ _ h => ⟨h.1, h.2.symm⟩)
  have hle := @Lx.two_le s k
  have hx : ∀ i, k + i ≤ s.size → (s.extract k s.size).extract 0 i = s.extract k (k + i) := fun i hi => Lx.extract_tail s k i hi
  have hk1 : (k : Int) + 1 ≤ (s.size : Int) := by omega
  unfold Lx.signEnd
  unfold Lx.two at *
  generalize Lib.hasPrefix (s.extract k s.size).data.toList [58, 61] = a at *
  generalize Lib.hasPrefix (s.extract k s.size).data.toList [45, 62] = b at *
  have H1 := Lib.hid h1; have H2 := Lib.hid h2; have HX := Lib.hid hx; have HL := Lib.hid hle
  clear h1 h2 hx hle
  cases a <;> cases b
  all_goals
    have hl := HL.out
    simp only [Bool.or_true, Bool.or_false, Bool.or_self, if_true, Bool.false_eq_true, if_false, true_imp_iff, false_imp_iff] at hl ⊢
    go_enter Tryd.func97, Tryd.ntmps97
    go_wp2_with (first
      | (go_at_call_of 111 (Value.string ⟨#[58, 61]⟩); refine H1.out.mono ?_; rintro e w' ⟨rfl, rfl⟩)
      | (go_at_call 111; refine H2.out.mono ?_; rintro e w' ⟨rfl, rfl⟩))
    go_ret
    first
      | exact ⟨ret_str (HX.out 2 hl), rfl⟩
      | exact ⟨ret_str rfl, rfl⟩
end Go.Proofs.YtchkngabppmbkaaDoor
