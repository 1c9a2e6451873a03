/-
  WALKS: Has.
-/
import Derived.Test.YtepdlghobopdbaaGreatDoorBv
namespace Go.Proofs.YtepdlghobopdbaaGreatDoor
open Go.RowKit Go.MapKept Go.Shelf

namespace Ar
def hasErr (a : Are) (m : Mv) : Nat := if findErr a m = 7 then 0 else findErr a m
end Ar
set_option maxRecDepth 100000 in
set_option maxHeartbeats 4000000 in
theorem Has_any (a : Ar.Are) (A : Option Addr) (c : Nat) (P : Nat → Option Addr × Nat) (m : Ar.Mv) (w : World) (hA : ArM w A P a) :
    Calls Tryz.prog 13 #[arV A c a, mvV m] w fun e w' => e = .returned (.tuple #[.bool (decide (Ar.findErr a m = 0)), .int .i64 (Ar.hasErr a m : Int)]) ∧ Below w.heap.size w w' := by
  have hB0 := below_two (w := w) (.cells #[.slice A a.ids.length c, .bool a.root.cell, .int .i64 a.root.n, .bool a.jumps] 27 (0, 0)) (mvO m)
  have HF := Lib.hid (find_any a A c P m _ (hA.below hB0))
  obtain ⟨A1, n1, c1, x1, x2, x3, hx⟩ := findRt_form a A c m
  rw [hx] at HF
  obtain ⟨y1, y2, y3, y4, y5, hy⟩ : ∃ y1 y2 y3 y4 y5, plRes (Ar.findPl a m) = .agg #[.bool y1, .int .i64 y2, .int .i64 y3, .int .i64 y4, .bool y5] := by
    unfold plRes
    cases Ar.findPl a m <;> exact ⟨_, _, _, _, _, rfl⟩
  rw [hy] at HF
  have hav : arV A c a = .agg #[.slice A a.ids.length c, .bool a.root.cell, .int .i64 a.root.n, .bool a.jumps] := rfl
  have hmv : mvV m = .agg #[.int .i64 m.id, .int .i64 m.arg, .int .u8 m.kind, .int .i64 m.n] := rfl
  rw [hav, hmv] at HF ⊢
  unfold mvO at HF hB0
  unfold Ar.hasErr
  clear hx hA hav hmv hy
  generalize Ar.findErr a m = er at *
  by_cases h7 : er = 7
  · subst h7
    go_enter Tryz.func13, Tryz.ntmps13
    go_wp2_with (go_at_call 33; refine HF.out.mono ?_; rintro e w2 ⟨rfl, hB2⟩; have hBw2 := hB0.trans (hB2.mono hB0.size))
    refine bodyPost_ret (v := .tuple #[.bool false, .int .i64 0]) (by simp [results, Tryz.results13, go_sem]) rfl ⟨rfl, ?_⟩
    exact (hBw2.alloc hBw2.size _).alloc (by rw [size_alloc]; exact Nat.le_succ_of_le hBw2.size) _
  · have e1 : ((er : Int) == 7) = false := by rw [beq_eq_false_iff_ne]; omega
    have hd : ((er : Int) == 0) = decide (er = 0) := by
      by_cases h : er = 0
      · subst h; rfl
      · rw [decide_eq_false h, beq_eq_false_iff_ne]; omega
    rw [if_neg h7]
    clear h7
    have HD := Lib.hid hd; clear hd
    go_enter Tryz.func13, Tryz.ntmps13
    go_wp2_with (go_at_call 33; refine HF.out.mono ?_; rintro e w2 ⟨rfl, hB2⟩; have hBw2 := hB0.trans (hB2.mono hB0.size))
    refine bodyPost_ret (v := .tuple #[.bool ((er : Int) == 0), .int .i64 er]) (by simp [results, Tryz.results13, go_sem]) rfl ⟨by rw [HD.out], ?_⟩
    exact (hBw2.alloc hBw2.size _).alloc (by rw [size_alloc]; exact Nat.le_succ_of_le hBw2.size) _
end Go.Proofs.YtepdlghobopdbaaGreatDoor
