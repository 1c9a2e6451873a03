/-
  WALKS: the reference: Text.
-/
import Derived.Test.YtbfpgjnagpcbeaaGreatDoorFt
import Derived.Test.YtbfpgjnagpcbeaaGreatDoorFv
namespace Go.Proofs.YtbfpgjnagpcbeaaGreatDoor
open Go.RowKit Go.MapKept Go.Shelf

theorem hasText_cases {m : Ar.Mv} (h : Ar.hasText m = false) : m.id < 0 ∨ (0 ≤ m.id ∧ m.arg < 0) ∨ (0 ≤ m.id ∧ 0 ≤ m.arg ∧ ((m.kind = 1 ∧ m.n ≠ 0) ∨ (m.kind = 2 ∧ m.n < 0) ∨ (m.kind = 3 ∧ m.n < -1) ∨ (m.kind ≠ 1 ∧ m.kind ≠ 2 ∧ m.kind ≠ 3))) := by
  unfold Ar.hasText at h
  split at h
  · omega
  · split at h
    · simp only [decide_eq_false_iff_not] at h; omega
    · split at h
      · simp only [decide_eq_false_iff_not] at h; omega
      · split at h
        · simp only [Bool.or_eq_false_iff, decide_eq_false_iff_not] at h; omega
        · omega
theorem hasText_good {m : Ar.Mv} (h : Ar.hasText m = true) : 0 ≤ m.id ∧ 0 ≤ m.arg ∧ ((m.kind = 1 ∧ m.n = 0) ∨ (m.kind = 2 ∧ 0 ≤ m.n) ∨ (m.kind = 3 ∧ -1 ≤ m.n)) := by
  unfold Ar.hasText at h
  split at h
  · cases h
  · split at h
    · simp only [decide_eq_true_eq] at h; omega
    · split at h
      · simp only [decide_eq_true_eq] at h; omega
      · split at h
        · simp only [Bool.or_eq_true, decide_eq_true_eq] at h; omega
        · cases h

set_option maxRecDepth 100000 in
set_option maxHeartbeats 8000000 in
theorem refText_any (m : Ar.Mv) (hm : MvOk m) (w : World) :
    Calls Tryz.prog 43 #[.agg #[.int .i64 m.id, .int .i64 m.arg, .int .u8 m.kind, .int .i64 m.n]] w fun e w' => e = .returned (.tuple #[.string (Ar.textRes m).1, .int .i64 ((Ar.textRes m).2 : Int)]) ∧ Below w.heap.size w w' := by
  have hB0 : Below w.heap.size w (w.alloc (.cells #[.int .i64 m.id, .int .i64 m.arg, .int .u8 m.kind, .int .i64 m.n] 40 (0, 0))) := (Below.refl _ _).alloc (Nat.le_refl _) _
  have j0 := Lib.hid (World.alloc_heap_new w (.cells #[.int .i64 m.id, .int .i64 m.arg, .int .u8 m.kind, .int .i64 m.n] 40 (0, 0)))
  obtain ⟨e0, e1, e2, e3, -, -, -, -⟩ := cells4 j0.out
  cases h : Ar.hasText m
  · have HR : Hid (Ar.textRes m = (⟨#[]⟩, 4)) := by unfold Ar.textRes; rw [Hid, if_neg (by rw [h]; simp)]
    have hc := hasText_cases h
    clear h hm
    generalize Ar.textRes m = tr at *
    rcases hc with h1 | ⟨h1, h2⟩ | ⟨h1, h2, h3⟩
    · have g1 : ¬ (0 ≤ m.id) := by omega
      clear h1
      go_enter Tryz.func43, Tryz.ntmps43
      go_wp2
      all_goals exact bodyPost_ret (v := .tuple #[.string ⟨#[]⟩, .int .i64 4]) (by simp [results, Tryz.results43, go_sem]) rfl ⟨by rw [HR.out]; rfl, hB0⟩
    · have g2 : ¬ (0 ≤ m.arg) := by omega
      clear h2
      go_enter Tryz.func43, Tryz.ntmps43
      go_wp2
      all_goals exact bodyPost_ret (v := .tuple #[.string ⟨#[]⟩, .int .i64 4]) (by simp [results, Tryz.results43, go_sem]) rfl ⟨by rw [HR.out]; rfl, hB0⟩
    · rcases h3 with ⟨k, hn⟩ | ⟨k, hn⟩ | ⟨k, hn⟩ | ⟨k1, k2, k3⟩
      · rw [k] at e2 j0 hB0 ⊢
        have g3 : (m.n == 0) = false := by rw [beq_eq_false_iff_ne]; exact hn
        clear k hn
        go_enter Tryz.func43, Tryz.ntmps43
        go_wp2
        all_goals exact bodyPost_ret (v := .tuple #[.string ⟨#[]⟩, .int .i64 4]) (by simp [results, Tryz.results43, go_sem]) rfl ⟨by rw [HR.out]; rfl, hB0⟩
      · rw [k] at e2 j0 hB0 ⊢
        have g3 : ¬ (0 ≤ m.n) := by omega
        clear k hn
        go_enter Tryz.func43, Tryz.ntmps43
        go_wp2
        all_goals exact bodyPost_ret (v := .tuple #[.string ⟨#[]⟩, .int .i64 4]) (by simp [results, Tryz.results43, go_sem]) rfl ⟨by rw [HR.out]; rfl, hB0⟩
      · rw [k] at e2 j0 hB0 ⊢
        have g3 : ¬ (-1 ≤ m.n) := by omega
        clear k hn
        go_enter Tryz.func43, Tryz.ntmps43
        go_wp2
        all_goals exact bodyPost_ret (v := .tuple #[.string ⟨#[]⟩, .int .i64 4]) (by simp [results, Tryz.results43, go_sem]) rfl ⟨by rw [HR.out]; rfl, hB0⟩
      · have g1 : (m.kind == 1) = false := by rw [beq_eq_false_iff_ne]; exact k1
        have g2 : (m.kind == 2) = false := by rw [beq_eq_false_iff_ne]; exact k2
        have g3 : (m.kind == 3) = false := by rw [beq_eq_false_iff_ne]; exact k3
        clear k1 k2 k3
        go_enter Tryz.func43, Tryz.ntmps43
        go_wp2
        all_goals exact bodyPost_ret (v := .tuple #[.string ⟨#[]⟩, .int .i64 4]) (by simp [results, Tryz.results43, go_sem]) rfl ⟨by rw [HR.out]; rfl, hB0⟩
  · have HR : Hid (Ar.textRes m = (Ar.textOf m, 0)) := by unfold Ar.textRes; rw [Hid, if_pos h]
    have HW := Lib.hid (fun W => words_any m h hm W)
    obtain ⟨h1, h2, hc⟩ := hasText_good h
    clear h hm
    generalize Ar.textRes m = tr at *
    generalize Ar.textOf m = tx at *
    rcases hc with ⟨k, hn⟩ | ⟨k, hn⟩ | ⟨k, hn⟩
    · rw [k] at e2 j0 hB0 HW ⊢
      rw [hn] at e3 j0 hB0 HW ⊢
      clear k hn
      go_enter Tryz.func43, Tryz.ntmps43
      go_wp2_with (go_at_call 98; refine (HW.out _).mono ?_; rintro e w2 ⟨rfl, hB2⟩)
      exact bodyPost_ret (v := .tuple #[.string tx, .int .i64 0]) (by simp [results, Tryz.results43, go_sem]) rfl ⟨by rw [HR.out]; rfl, hB0.trans (hB2.mono hB0.size)⟩
    · rw [k] at e2 j0 hB0 HW ⊢
      clear k
      go_enter Tryz.func43, Tryz.ntmps43
      go_wp2_with (go_at_call 98; refine (HW.out _).mono ?_; rintro e w2 ⟨rfl, hB2⟩)
      exact bodyPost_ret (v := .tuple #[.string tx, .int .i64 0]) (by simp [results, Tryz.results43, go_sem]) rfl ⟨by rw [HR.out]; rfl, hB0.trans (hB2.mono hB0.size)⟩
    · rw [k] at e2 j0 hB0 HW ⊢
      clear k
      go_enter Tryz.func43, Tryz.ntmps43
      go_wp2_with (go_at_call 98; refine (HW.out _).mono ?_; rintro e w2 ⟨rfl, hB2⟩)
      exact bodyPost_ret (v := .tuple #[.string tx, .int .i64 0]) (by simp [results, Tryz.results43, go_sem]) rfl ⟨by rw [HR.out]; rfl, hB0.trans (hB2.mono hB0.size)⟩
end Go.Proofs.YtbfpgjnagpcbeaaGreatDoor
