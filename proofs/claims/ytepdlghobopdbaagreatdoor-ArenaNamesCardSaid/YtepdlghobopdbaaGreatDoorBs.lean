/-
  WALKS: awake: the document's examples.
-/
import Derived.Test.YtepdlghobopdbaaGreatDoorBr
namespace Go.Proofs.YtepdlghobopdbaaGreatDoor
open Go.RowKit Go.MapKept Go.Shelf

theorem ex_moves (A : Option Addr) (c : Nat) (P : Nat → Option Addr × Nat) (W : World) (hM : ArM W A P exA) : Calls Tryz.prog 26 #[arV A c exA] W fun e w' => ∃ ao cap, e = .returned (.tuple #[.slice ao 22 cap, .int .i64 0]) ∧ Below W.heap.size W w' :=
  (moves_any exA A c P W hM).mono fun e w' ⟨v, he, ho, hB⟩ => by
    rw [ex2] at ho
    obtain ⟨ao, cap, rfl⟩ := own_form ho
    exact ⟨ao, cap, he, hB⟩
theorem ex_inner (A : Option Addr) (c : Nat) (P : Nat → Option Addr × Nat) (W : World) (hM : ArM W A P exA) : Calls Tryz.prog 17 #[arV A c exA, .int .i64 1] W fun e w' => ∃ A' c' P', e = .returned (.tuple #[.agg #[.slice A' 2 c', .bool false, .int .i64 1, .bool true], .int .i64 0]) ∧ ArM w' A' P' exB ∧ Below W.heap.size W w' :=
  (inner_any exA A c P 1 W hM).mono fun e w' h => by
    rw [ex3, ex4] at h
    obtain ⟨A', c', P', he, hM', hB⟩ := h
    exact ⟨A', c', P', he, hM', hB⟩
theorem ex_show (A : Option Addr) (c : Nat) (P : Nat → Option Addr × Nat) (W : World) (hM : ArM W A P exB) (hG : GT W) : Calls Tryz.prog 24 #[.agg #[.slice A 2 c, .bool false, .int .i64 1, .bool true]] W fun e w' => e = .returned (.tuple #[.string exT, .int .i64 0]) ∧ Below W.heap.size W w' := by
  have h := show_some exB A c P W hM ex5 (by decide) hG
  rw [ex6] at h
  exact h
theorem ex_under (A : Option Addr) (c : Nat) (P : Nat → Option Addr × Nat) (W : World) (hM : ArM W A P exA) : Calls Tryz.prog 15 #[arV A c exA, .agg #[.int .i64 1, .int .i64 0, .int .u8 1, .int .i64 0]] W fun e w' => ∃ ao cap, e = .returned (.tuple #[.slice ao 4 cap, .int .i64 0]) ∧ Below W.heap.size W w' :=
  (under_any exA A c P ⟨1, 0, 1, 0⟩ W hM).mono fun e w' ⟨v, he, ho, hB⟩ => by
    rw [ex8] at ho
    obtain ⟨ao, cap, rfl⟩ := own_form ho
    exact ⟨ao, cap, he, hB⟩
theorem ex_parse (W : World) (hV : GV W) (hG : GT W) : Calls Tryz.prog 19 #[.string ⟨#[49, 46, 50, 61, 49]⟩] W fun e w' => e = .returned (.tuple #[.agg #[.int .i64 1, .int .i64 2, .int .u8 2, .int .i64 1], .int .i64 0]) ∧ Below W.heap.size W w' :=
  (parse_any exS (by decide) W hV hG).mono fun e w' ⟨h, hB⟩ => by
    refine ⟨?_, hB⟩
    have m1 : miss exS 1 := by unfold miss; rw [ex12, ex15]; decide
    have m3 : miss exS 3 := by unfold miss; rw [ex13, ex16]; decide
    have m2 : ¬ miss exS 2 := by unfold miss; rw [ex11, ex14]; exact fun h => h rfl
    rcases h with ⟨k, hk, hm, he⟩ | ⟨hm, _⟩
    · rcases hk with rfl | rfl | rfl
      · exact absurd m1 hm
      · rw [ex11] at he; exact he
      · exact absurd m3 hm
    · exact absurd (hm 2 (.inr (.inl rfl))) m2
theorem ex_other (A : Option Addr) (c : Nat) (P : Nat → Option Addr × Nat) (W : World) (hM : ArM W A P exA) : Calls Tryz.prog 11 #[arV A c exA, .agg #[.int .i64 1, .int .i64 0, .int .u8 3, .int .i64 0]] W fun e w' => e = .returned (.tuple #[.bool true, .int .i64 0]) ∧ Below W.heap.size W w' := by
  have h := isOther_any exA A c P ⟨1, 0, 3, 0⟩ W hM
  rw [ex9, ex10] at h
  exact h
set_option maxRecDepth 100000 in
set_option maxHeartbeats 8000000 in
theorem awake_any (w : World) (hV : GV w) (hG : GT w) : Calls Tryz.prog 6 #[] w fun e w' => e = .returned (.bool true) ∧ Below w.heap.size w w' := by
  have hBw := Below.refl w.heap.size w
  have HV := Lib.hid hV
  have HG := Lib.hid hG
  clear hV hG
  have hTL : exT.toList = [105, 110, 116, 32, 49, 59, 32, 105, 110, 116, 32, 51, 59, 32, 99, 101, 108, 108, 32, 50, 59, 32, 106, 117, 109, 112, 115] := by rw [ByteArray.toList_eq]; rfl
  go_enter Tryz.func6, Tryz.ntmps6
  go_wp2_with (first
    | (go_at_call 10; refine (example_any _).mono ?_; rintro e wE ⟨A, c, P, rfl, hM, hBE⟩; have HM := Lib.hid hM; clear hM; have hBw := hBw.trans (hBE.mono hBw.size); try have hkP := Lib.hid ((hBE.block _ (lt_of_heap hkP.out)).trans hkP.out))
    | (go_at_call 26; refine (ex_moves _ _ _ _ HM.out).mono ?_; rintro e wM ⟨ao, cap, rfl, hBM⟩; have hBw := hBw.trans (hBM.mono hBw.size))
    | (go_at_call 17; refine (ex_inner _ _ _ _ HM.out).mono ?_; rintro e wI ⟨A1, c1, P1, rfl, hM1, hBI⟩; have HM1 := Lib.hid (hM1.below ((Below.refl _ _).alloc (Nat.le_refl _) (.cells #[.slice A1 2 c1, .bool false, .int .i64 1, .bool true] 27 (0, 0)))); clear hM1; have hBw := hBw.trans (hBI.mono hBw.size); have hBw := hBw.alloc hBw.size (.cells #[.slice A1 2 c1, .bool false, .int .i64 1, .bool true] 27 (0, 0)))
    | (go_at_call 24; refine (ex_show _ _ _ _ HM1.out (HG.out.below hBw)).mono ?_; rintro e wS ⟨rfl, hBS⟩; have hBw := hBw.trans (hBS.mono hBw.size))
    | (go_at_call 15; refine (ex_under _ _ _ _ HM.out).mono ?_; rintro e wU ⟨ao2, cap2, rfl, hBU⟩; have hBw := hBw.trans (hBU.mono hBw.size))
    | (go_at_call 19; refine (ex_parse _ (HV.out.below hBw) (HG.out.below hBw)).mono ?_; rintro e wP ⟨rfl, hBP⟩; have hBw := hBw.trans (hBP.mono hBw.size); have hkP := Lib.hid (World.alloc_heap_new wP (.cells #[.int .i64 1, .int .i64 2, .int .u8 2, .int .i64 1] 37 (0, 0))); have hBw := hBw.alloc hBw.size (.cells #[.int .i64 1, .int .i64 2, .int .u8 2, .int .i64 1] 37 (0, 0)))
    | (go_at_call 11; refine (ex_other _ _ _ _ HM.out).mono ?_; rintro e wO ⟨rfl, hBO⟩; have hBw := hBw.trans (hBO.mono hBw.size); have hkP := Lib.hid ((hBO.block _ (lt_of_heap hkP.out)).trans hkP.out); obtain ⟨r0, r1, r2, r3, -, -, -, -⟩ := cells4 hkP.out))
  go_ret
  exact ⟨rfl, hBw⟩
end Go.Proofs.YtepdlghobopdbaaGreatDoor
