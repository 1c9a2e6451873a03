/-
  WALKS: a question found in an arena; what it allows.
-/
import Derived.Test.YtepdlghobopdbaaGreatDoorAw
namespace Go.Proofs.YtepdlghobopdbaaGreatDoor
open Go.RowKit Go.Shelf

namespace Ar
def noQ (a : Are) (m : Mv) : Bool := decide (findErr a m = 0) && !isQ m
def fqErr (a : Are) (m : Mv) : Nat := if noQ a m = true then 2 else findErr a m
def underOf (a : Are) (p : Pl) : List Pl := if isId p = true then (placesOf a).filter (underIs p) else (placesOf a).filter isId
def underRes (a : Are) (m : Mv) : List Mv := if fqErr a m = 0 then (match findPl a m with | some p => (underOf a p).flatMap questionsOf | none => []) else []
end Ar
def fqRt (a : Ar.Are) (A : Option Addr) (c : Nat) (m : Ar.Mv) : Value := if Ar.noQ a m = true then arZ else findRt a A c m
def fqPl (a : Ar.Are) (m : Ar.Mv) : Value := if Ar.noQ a m = true then plV plZ else plRes (Ar.findPl a m)

set_option maxRecDepth 100000 in
set_option maxHeartbeats 4000000 in
theorem findQuestion_any (a : Ar.Are) (A : Option Addr) (c : Nat) (P : Nat → Option Addr × Nat) (m : Ar.Mv) (w : World) (hA : ArM w A P a) :
    Calls Tryz.prog 36 #[arV A c a, mvV m] w fun e w' => e = .returned (.tuple #[fqRt a A c m, fqPl a m, .int .i64 (Ar.fqErr a m : Int)]) ∧ Below w.heap.size w w' := by
  have hF := FB.first w a A c m
  have HG := Lib.hid (find_any a A c P m _ (hA.below hF.below))
  obtain ⟨A1, n1, c1, x1, x2, x3, hx⟩ := findRt_form a A c m
  obtain ⟨p, hpr⟩ := plRes_form (Ar.findPl a m)
  have hav : arV A c a = .agg #[.slice A a.ids.length c, .bool a.root.cell, .int .i64 a.root.n, .bool a.jumps] := rfl
  have hmv : mvV m = .agg #[.int .i64 m.id, .int .i64 m.arg, .int .u8 m.kind, .int .i64 m.n] := rfl
  have HQ := Lib.hid (fun W => isQuestion_any m W)
  have HF := Lib.hid hF
  have hnq : Ar.noQ a m = (decide (Ar.findErr a m = 0) && !Ar.isQ m) := rfl
  have hr1 : fqRt a A c m = if Ar.noQ a m = true then arZ else findRt a A c m := rfl
  have hr2 : fqPl a m = if Ar.noQ a m = true then plV plZ else plRes (Ar.findPl a m) := rfl
  have hr3 : Ar.fqErr a m = if Ar.noQ a m = true then 2 else Ar.findErr a m := rfl
  rw [hr1, hr2, hr3]
  rw [hx, hpr] at HG ⊢
  rw [hav, hmv] at HG
  rw [hmv] at HQ
  rw [hav, hmv]
  unfold mvO rtZ plO plZ at HF HG
  generalize Ar.findErr a m = er at *
  generalize Ar.isQ m = bq at *
  clear hF hA hx hpr hav hmv hr1 hr2 hr3
  have hmx : Tryz.prog.follows .mixedOrders = true := by kernel_rfl
  by_cases h0 : er = 0
  · subst h0
    cases bq
    · rw [show Ar.noQ a m = true by rw [hnq]; rfl]
      clear hnq
      unfold arZ plV plZ
      go_enter Tryz.func36, Tryz.ntmps36
      go_wp2_with (first
        | (go_at_call 35; refine (HQ.out _).mono ?_; rintro e w6 ⟨rfl, hB6⟩; have f6 := Lib.hid (f4.out.next hB6); obtain ⟨⟨r0, r1, r2, r3, s0, s1, s2, s3⟩, ⟨z0, z1, z2, z3, z4⟩, ⟨g0, g1, g2, g3, g4⟩⟩ := f6.out.zcells)
        | (go_at_call 33; refine HG.out.mono ?_; rintro e w2 ⟨rfl, hB2⟩; have f2 := HF.out.next hB2; have f4 := Lib.hid (f2.next (below_two (w := w2) (.cells #[.slice A1 n1 c1, .bool x1, .int .i64 x2, .bool x3] 66 (0, 0)) (.cells #[.bool p.base.cell, .int .i64 p.base.n, .int .i64 p.id, .int .i64 p.arg, .bool p.jumps] 68 (0, 0)))); obtain ⟨m0, m1, m2, m3⟩ := f4.out.mcells; clear f2))
      refine bodyPost_ret (v := .tuple #[.agg #[.slice none 0 0, .bool false, .int .i64 0, .bool false], .agg #[.bool false, .int .i64 0, .int .i64 0, .int .i64 0, .bool false], .int .i64 2]) (by simp [results, Tryz.results36, go_sem, World.cell?_setCell_same', z0, z1, z2, z3, z4, r0, r1, r2, r3]) rfl ⟨rfl, ?_⟩
      iterate 9 (refine Below.setCell ?_ (by simp; omega) _)
      exact f6.out.below
    · rw [show Ar.noQ a m = false by rw [hnq]; rfl]
      clear hnq
      go_enter Tryz.func36, Tryz.ntmps36
      go_wp2_with (first
        | (go_at_call 35; refine (HQ.out _).mono ?_; rintro e w6 ⟨rfl, hB6⟩; have f6 := Lib.hid (f4.out.next hB6); have k7 := Lib.hid ((hB6.block _ (lt_of_heap j7.out)).trans j7.out); have k9 := Lib.hid ((hB6.block _ (lt_of_heap j9.out)).trans j9.out); obtain ⟨⟨r0, r1, r2, r3, s0, s1, s2, s3⟩, ⟨z0, z1, z2, z3, z4⟩, ⟨g0, g1, g2, g3, g4⟩⟩ := f6.out.zcells; obtain ⟨q0, q1, q2, q3, -⟩ := cells4 k7.out; obtain ⟨o0, o1, o2, o3, o4⟩ := plO_cells (p := p) k9.out)
        | (go_at_call 33; refine HG.out.mono ?_; rintro e w2 ⟨rfl, hB2⟩; have f2 := HF.out.next hB2; have f4 := Lib.hid (f2.next (below_two (w := w2) (.cells #[.slice A1 n1 c1, .bool x1, .int .i64 x2, .bool x3] 66 (0, 0)) (.cells #[.bool p.base.cell, .int .i64 p.base.n, .int .i64 p.id, .int .i64 p.arg, .bool p.jumps] 68 (0, 0)))); have j7 := Lib.hid (two_new1 w2 (.cells #[.slice A1 n1 c1, .bool x1, .int .i64 x2, .bool x3] 66 (0, 0)) (.cells #[.bool p.base.cell, .int .i64 p.base.n, .int .i64 p.id, .int .i64 p.arg, .bool p.jumps] 68 (0, 0))); have j9 := Lib.hid (two_new2 w2 (.cells #[.slice A1 n1 c1, .bool x1, .int .i64 x2, .bool x3] 66 (0, 0)) (.cells #[.bool p.base.cell, .int .i64 p.base.n, .int .i64 p.id, .int .i64 p.arg, .bool p.jumps] 68 (0, 0))); obtain ⟨m0, m1, m2, m3⟩ := f4.out.mcells; clear f2))
      have hsz2 : w.heap.size + 4 ≤ w2.heap.size := by have := hB2.size; simp at this; omega
      have n1' : w2.heap.size + 1 ≠ w.heap.size + 1 + 1 := by omega
      have n2' : w2.heap.size + 1 ≠ w.heap.size + 1 + 1 + 1 := by omega
      have n3' : w2.heap.size ≠ w.heap.size + 1 + 1 := by omega
      have n4' : w2.heap.size ≠ w.heap.size + 1 + 1 + 1 := by omega
      clear hB2 hB6 HG HQ HF
      go_region
      all_goals go_wp2
      all_goals
        refine bodyPost_ret (v := .tuple #[.agg #[.slice A1 n1 c1, .bool x1, .int .i64 x2, .bool x3], .agg #[.bool p.base.cell, .int .i64 p.base.n, .int .i64 p.id, .int .i64 p.arg, .bool p.jumps], .int .i64 0]) (by simp [results, Tryz.results36, go_sem, World.cell?_setCell_same', z0, z1, z2, z3, z4, r0, r1, r2, r3]) rfl ⟨rfl, ?_⟩
        refine Below.drew ?_
        iterate 9 (refine Below.setCell ?_ (by simp; omega) _)
        exact f6.out.below
  · rw [show Ar.noQ a m = false by rw [hnq, decide_eq_false h0]; rfl]
    have he : ((er : Int) == 0) = false := by rw [beq_eq_false_iff_ne]; omega
    clear hnq h0
    go_enter Tryz.func36, Tryz.ntmps36
    go_wp2_with (go_at_call 33; refine HG.out.mono ?_; rintro e w2 ⟨rfl, hB2⟩; have f2 := HF.out.next hB2; have f6 := Lib.hid (f2.next (below_two (w := w2) (.cells #[.slice A1 n1 c1, .bool x1, .int .i64 x2, .bool x3] 66 (0, 0)) (.cells #[.bool p.base.cell, .int .i64 p.base.n, .int .i64 p.id, .int .i64 p.arg, .bool p.jumps] 68 (0, 0)))); have k7 := Lib.hid (two_new1 w2 (.cells #[.slice A1 n1 c1, .bool x1, .int .i64 x2, .bool x3] 66 (0, 0)) (.cells #[.bool p.base.cell, .int .i64 p.base.n, .int .i64 p.id, .int .i64 p.arg, .bool p.jumps] 68 (0, 0))); have k9 := Lib.hid (two_new2 w2 (.cells #[.slice A1 n1 c1, .bool x1, .int .i64 x2, .bool x3] 66 (0, 0)) (.cells #[.bool p.base.cell, .int .i64 p.base.n, .int .i64 p.id, .int .i64 p.arg, .bool p.jumps] 68 (0, 0))); obtain ⟨⟨r0, r1, r2, r3, s0, s1, s2, s3⟩, ⟨z0, z1, z2, z3, z4⟩, ⟨g0, g1, g2, g3, g4⟩⟩ := f6.out.zcells; obtain ⟨q0, q1, q2, q3, -⟩ := cells4 k7.out; obtain ⟨o0, o1, o2, o3, o4⟩ := plO_cells (p := p) k9.out)
    have hsz2 : w.heap.size + 4 ≤ w2.heap.size := by have := hB2.size; simp at this; omega
    have n1' : w2.heap.size + 1 ≠ w.heap.size + 1 + 1 := by omega
    have n2' : w2.heap.size + 1 ≠ w.heap.size + 1 + 1 + 1 := by omega
    have n3' : w2.heap.size ≠ w.heap.size + 1 + 1 := by omega
    have n4' : w2.heap.size ≠ w.heap.size + 1 + 1 + 1 := by omega
    clear hB2 HG HQ HF
    generalize (w2.alloc (.cells #[.slice A1 n1 c1, .bool x1, .int .i64 x2, .bool x3] 66 (0, 0))).alloc (.cells #[.bool p.base.cell, .int .i64 p.base.n, .int .i64 p.id, .int .i64 p.arg, .bool p.jumps] 68 (0, 0)) = w6 at *
    go_region
    all_goals go_wp2
    all_goals
      refine bodyPost_ret (v := .tuple #[.agg #[.slice A1 n1 c1, .bool x1, .int .i64 x2, .bool x3], .agg #[.bool p.base.cell, .int .i64 p.base.n, .int .i64 p.id, .int .i64 p.arg, .bool p.jumps], .int .i64 (er : Int)]) (by simp [results, Tryz.results36, go_sem, World.cell?_setCell_same', z0, z1, z2, z3, z4, r0, r1, r2, r3]) rfl ⟨rfl, ?_⟩
      refine Below.drew ?_
      iterate 9 (refine Below.setCell ?_ (by simp; omega) _)
      exact f6.out.below
end Go.Proofs.YtepdlghobopdbaaGreatDoor
