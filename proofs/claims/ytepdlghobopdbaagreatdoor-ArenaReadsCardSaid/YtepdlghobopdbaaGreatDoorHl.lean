/-
  WALKS: ArenaReads.
-/
import Derived.Test.YtepdlghobopdbaaGreatDoorHk
import Derived.Test.YtepdlghobopdbaaGreatDoorHd
import Derived.Test.YtepdlghobopdbaaGreatDoorBs
namespace Go.Proofs.YtepdlghobopdbaaGreatDoor
open Go.RowKit Go.MapKept Go.Shelf

set_option maxRecDepth 100000 in
set_option maxHeartbeats 8000000 in
theorem law_reads (s : ByteArray) (w : World) (hV : GV w) (hG : GT w) (hX : GM w) :
    Calls Tryz.prog 3 #[.string s] w fun e w' => e = .returned (.bool true) ∧ Below w.heap.size w w' := by
  have HA := Lib.hid (fun W (hB : Below w.heap.size w W) => awake_any W (hV.below hB) (hG.below hB))
  by_cases h8 : 800 < s.size
  · have hgt : (800 : Int) < (s.size : Int) := by omega
    clear hV hG hX h8
    go_enter Tryz.func3, Tryz.ntmps3
    go_wp2_with (go_at_call 6; refine (HA.out _ (Below.refl _ _)).mono ?_; rintro e w6 ⟨rfl, hB6⟩)
    go_ret
    exact ⟨rfl, hB6⟩
  · have hgt : ¬ ((800 : Int) < (s.size : Int)) := by omega
    have HR1 := Lib.hid (fun W (hB : Below w.heap.size w W) => read_any s (by omega) W (hV.below hB) (hG.below hB) (hX.below hB))
    have HR2 := Lib.hid (fun W => refRead_any s (by omega) W)
    generalize (Ar.readRes s).1 = z at *
    generalize (Ar.readRes s).2 = F at *
    have HSM := Lib.hid (fun A A' c c' P P' W (hA : ArM W A P z) (hA' : ArM W A' P' z) => show Calls Tryz.prog 9 #[.agg #[.slice A z.ids.length c, .bool z.root.cell, .int .i64 z.root.n, .bool z.jumps], .agg #[.slice A' z.ids.length c', .bool z.root.cell, .int .i64 z.root.n, .bool z.jumps]] W fun e w' => e = .returned (.bool true) ∧ Below W.heap.size W w' from same_any z A A' c c' P P' W hA hA')
    clear hV hG hX h8
    go_enter Tryz.func3, Tryz.ntmps3
    go_wp2_with (first
      | (go_at_call 6; refine (HA.out _ hBw5).mono ?_; rintro e w6 ⟨rfl, hB6⟩)
      | (go_at_call 9; refine (HSM.out A1 A2 c1 c2 P1 P2 _ hM1 hM2).mono ?_; rintro e w5 ⟨rfl, hB5⟩; have hBw5 := hBw4.trans (hB5.mono hBw4.size))
      | (go_at_call 8; have _t := hB2; refine (HR2.out _).mono ?_; rintro e w4 ⟨A2, c2, P2, rfl, hM2, hB4⟩; have hAl := (Below.refl w4.heap.size w4).alloc (Nat.le_refl _) (.cells #[.slice A2 z.ids.length c2, .bool z.root.cell, .int .i64 z.root.n, .bool z.jumps] 27 (0, 0)); have hBw4 := (hBw3.trans (hB4.mono hBw3.size)).trans (hAl.mono (hBw3.trans (hB4.mono hBw3.size)).size); have hM1 := (hM1.below hB4).below hAl; have hM2 := hM2.below hAl; have j4 := (hAl.block _ (lt_of_heap ((hB4.block _ (lt_of_heap j3)).trans j3))).trans ((hB4.block _ (lt_of_heap j3)).trans j3); have i4 := World.alloc_heap_new w4 (.cells #[.slice A2 z.ids.length c2, .bool z.root.cell, .int .i64 z.root.n, .bool z.jumps] 27 (0, 0)); obtain ⟨x0, x1, x2, x3, -, -, -, -⟩ := cells4 j4; obtain ⟨y0, y1, y2, y3, -, -, -, -⟩ := cells4 i4)
      | (go_at_call 7; refine (HR1.out _ (Below.refl _ _)).mono ?_; rintro e w2 ⟨A1, c1, P1, rfl, hM1, hB2⟩; have hAl2 := (Below.refl w2.heap.size w2).alloc (Nat.le_refl _) (.cells #[.slice A1 z.ids.length c1, .bool z.root.cell, .int .i64 z.root.n, .bool z.jumps] 27 (0, 0)); have hBw3 := hB2.trans (hAl2.mono hB2.size); have hM1 := hM1.below hAl2; have j3 := World.alloc_heap_new w2 (.cells #[.slice A1 z.ids.length c1, .bool z.root.cell, .int .i64 z.root.n, .bool z.jumps] 27 (0, 0))))
    go_ret
    exact ⟨rfl, hBw5.trans (hB6.mono hBw5.size)⟩
end Go.Proofs.YtepdlghobopdbaaGreatDoor
