/-
  WALKS: the reference's comments and right tokens.
-/
import Derived.Test.YtchkngabppmbkaaDoorLexZF
import Derived.Test.YtchkngabppmbkaaDoorSpecM
namespace Go.Proofs.YtchkngabppmbkaaDoor
open Go.RowKit

set_option maxRecDepth 100000 in
set_option maxHeartbeats 2000000 in
theorem refNote_any (s : ByteArray) (at0 : Nat) (w : World) (hs : s.size ≤ 9223372036854775807) (ha : at0 ≤ s.size) :
    Calls Tryd.prog 53 #[.string s, .int .i64 (at0 : Int)] w fun e w' => e = .returned (.string (s.extract at0 (Lx.runEnd Lx.notNL s at0))) ∧ w = w' := by
  obtain ⟨E, hE⟩ : ∃ E, Lx.runEnd Lx.notNL s at0 = E := ⟨_, rfl⟩
  rw [hE]
  have HE := Lib.hid hE; clear hE
  go_enter Tryd.func53, Tryd.ntmps53
  go_wp2
  go_loop [5] (fun i => ∃ k : Nat, at0 ≤ k ∧ k ≤ s.size ∧ i = .int .i64 k ∧ Hid (Lx.runEnd Lx.notNL s k = E)) (fun i => s.size - (intOf i).toNat)
  case atStart => exact ⟨at0, Nat.le_refl _, ha, rfl, HE.out⟩
  case round =>
    obtain ⟨k, hk0, hk, rfl, hn⟩ := hrel
    by_cases hlt : k < s.size
    · have HS := Lib.hid (@Lx.runEnd_step Lx.notNL s k hlt)
      have HT := Lib.hid (@Lx.runEnd_stop Lx.notNL s k hlt)
      have hq : (((s[k].toNat : Nat) : Int) != 10) = Lx.notNL s[k] := by
        unfold Lx.notNL
        have := byte_eq s[k] 10
        have h10 : ((UInt8.toNat 10 : Nat) : Int) = 10 := rfl
        rw [h10] at this
        unfold bne
        rw [this]
      cases hp : Lx.notNL s[k]
      · rw [hp] at hq
        obtain rfl : k = E := (HT.out hp).symm.trans hn.out
        clear hp
        go_wp2
        go_ret
        exact ⟨rfl, rfl⟩
      · rw [hp] at hq
        have HX := Lib.hid ((HS.out hp).symm.trans hn.out)
        clear hp
        go_wp2
        go_round
        case rel => exact ⟨k + 1, by omega, by omega, by go_num, HX.out⟩
        case measure => simp [intOf]; omega
    · obtain rfl : k = s.size := by omega
      obtain rfl : s.size = E := (Lx.runEnd_end (Nat.le_refl _)).symm.trans hn.out
      go_wp2
      go_ret
      exact ⟨rfl, rfl⟩

set_option maxRecDepth 100000 in
set_option maxHeartbeats 2000000 in
theorem refIsRight_any (t : Lx.Tk) (w : World) (hm : t.text.size ≤ 281474976710656) :
    Calls Tryd.prog 88 #[.agg #[.int .u8 t.kind, .string t.text, .int .i64 t.pos]] w fun e w' => e = .returned (.bool (Lx.tokOk t)) ∧ Below w.heap.size w w' := by
  by_cases h0 : t.text.size = 0
  · rw [Lx.tokOk_none h0]
    have he := is_empty h0
    obtain ⟨kd, tx, ps⟩ := t
    simp only at he
    subst he
    clear h0 hm
    go_enter Tryd.func88, Tryd.ntmps88
    go_wp2
    go_ret
    exact ⟨rfl, (Below.refl _ _).alloc (Nat.le_refl _) _⟩
  · have hp : 0 < t.text.size := by omega
    have HT := Lib.hid (fun W => refToken_any t.text 0 W hm hp)
    rw [Lx.tokOk_ref t hp]
    have hne := not_empty hp
    obtain ⟨kd, tx, ps⟩ := t
    simp only at hp hne HT hm
    have hq := str_eq (Lx.refPiece tx 0).2.1 tx
    clear h0
    generalize Lx.refPiece tx 0 = p at *
    obtain ⟨pk, px, pe⟩ := p
    simp only at hq
    by_cases he : pe = 0
    · subst he
      have hv : refV (pk, px, 0) 0 = .agg #[.int .u8 (pk : Int), .string px, .int .i64 0] := rfl
      unfold TokRet at HT
      rw [hv] at HT
      clear hv
      go_enter Tryd.func88, Tryd.ntmps88
      go_wp2_with (go_at_call 85; refine (HT.out _).mono ?_; rintro e w1 ⟨rfl, hB1⟩; have c0 : w1.cell? ⟨w.heap.size, 0, none⟩ = some (.int .u8 kd) := (hB1.cell (p := ⟨w.heap.size, 0, none⟩) (by simp)).trans (cells_new_at w _ _ 0 _ rfl); have c1 : w1.cell? ⟨w.heap.size, 1, none⟩ = some (.string tx) := (hB1.cell (p := ⟨w.heap.size, 1, none⟩) (by simp)).trans (cells_new_at w _ _ 1 _ rfl); have hz1 : w.heap.size + 1 ≤ w1.heap.size := (by have := hB1.size; simp at this; omega); have d0 : ∀ X, (w1.alloc X).cell? ⟨w.heap.size, 0, none⟩ = some (.int .u8 kd) := (fun X => (((Below.refl w1.heap.size w1).alloc (Nat.le_refl _) X).cell (p := ⟨w.heap.size, 0, none⟩) hz1).trans c0); have d1 : ∀ X, (w1.alloc X).cell? ⟨w.heap.size, 1, none⟩ = some (.string tx) := (fun X => (((Below.refl w1.heap.size w1).alloc (Nat.le_refl _) X).cell (p := ⟨w.heap.size, 1, none⟩) hz1).trans c1))
      all_goals go_ret
      all_goals
        refine ⟨ret_bool ?_, ((Below.refl _ _).alloc (Nat.le_refl _) _ |>.trans (hB1.mono (by simp))).alloc (by omega) _⟩
        simp_all
    · have he' : ((pe : Int) == 0) = false := by rw [beq_eq_false_iff_ne]; omega
      have hv : refV (pk, px, pe) 0 = .agg #[.int .u8 0, .string ⟨#[]⟩, .int .i64 0] := by unfold refV; rw [if_neg he]; rfl
      unfold TokRet at HT
      rw [hv] at HT
      have hd : decide (pe = 0) = false := decide_eq_false he
      simp only [hd, Bool.false_and]
      clear hv he hd
      go_enter Tryd.func88, Tryd.ntmps88
      go_wp2_with (go_at_call 85; refine (HT.out _).mono ?_; rintro e w1 ⟨rfl, hB1⟩; have hz1 : w.heap.size + 1 ≤ w1.heap.size := by have := hB1.size; simp at this; omega)
      go_ret
      exact ⟨rfl, ((Below.refl _ _).alloc (Nat.le_refl _) _ |>.trans (hB1.mono (by simp))).alloc (by omega) _⟩

set_option maxRecDepth 100000 in
set_option maxHeartbeats 2000000 in
theorem refIsName_any (t : ByteArray) (w : World) (hm : t.size ≤ 281474976710656) :
    Calls Tryd.prog 78 #[.string t] w fun e w' => e = .returned (.bool (Lx.tokOk ⟨1, t, 0⟩)) ∧ Below w.heap.size w w' := by
  have HR := Lib.hid (fun W => refIsRight_any ⟨1, t, 0⟩ W hm)
  go_enter Tryd.func78, Tryd.ntmps78
  go_wp2_with (go_at_call 88; refine (HR.out _).mono ?_; rintro e w1 ⟨rfl, hB1⟩)
  go_ret
  exact ⟨rfl, hB1⟩
end Go.Proofs.YtchkngabppmbkaaDoor
