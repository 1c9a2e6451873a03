/-
  WALKS: whose a move is.
-/
import Derived.Test.YtepdlghobopdbaaGreatDoorAu
import Derived.Deep.RegionHeld3
namespace Go.Proofs.YtepdlghobopdbaaGreatDoor
open Go.RowKit Go.Shelf

namespace Ar
def otherOf (a : Are) (m : Mv) : Bool := match findPl a m with | some p => isId p != isQ m | none => false
theorem findPl_some {a : Are} {m : Mv} (h : findErr a m = 0) : ∃ p, findPl a m = some p ∧ p ∈ placesOf a ∧ checkOf a = 0 ∧ atOf a m.id m.arg = some p := by
  have hf : findPl a m = atOf a m.id m.arg := by unfold findPl; rw [if_pos h]
  unfold findErr at h
  by_cases hc : checkOf a = 0
  · rw [if_pos hc] at h
    cases ha : atOf a m.id m.arg with
    | none => rw [ha] at h; cases h
    | some p => exact ⟨p, hf.trans ha, List.mem_of_find?_eq_some ha, hc, rfl⟩
  · rw [if_neg hc] at h; exact absurd h hc
end Ar

theorem findRt_form (a : Ar.Are) (A : Option Addr) (c : Nat) (m : Ar.Mv) : ∃ A1 n1 c1 x1 x2 x3, findRt a A c m = .agg #[.slice A1 n1 c1, .bool x1, .int .i64 x2, .bool x3] := by
  unfold findRt arV arZ; split <;> exact ⟨_, _, _, _, _, _, rfl⟩
theorem plRes_form (o : Option Ar.Pl) : ∃ p : Ar.Pl, plRes o = .agg #[.bool p.base.cell, .int .i64 p.base.n, .int .i64 p.id, .int .i64 p.arg, .bool p.jumps] := by
  cases o with
  | none => exact ⟨plZ, rfl⟩
  | some p => exact ⟨p, rfl⟩
theorem bcell {W w1 : World} (hb : Below W.heap.size W w1) : (∀ b o, b < W.heap.size → w1.cell? ⟨b, o, none⟩ = W.cell? ⟨b, o, none⟩) ∧ (∀ b o, b < W.heap.size → w1.frozen? ⟨b, o, none⟩ = W.frozen? ⟨b, o, none⟩) :=
  ⟨fun b o h => hb.cell (p := ⟨b, o, none⟩) h, fun b o h => hb.frozen (p := ⟨b, o, none⟩) h⟩
theorem keep_cell {W w1 : World} (hb : Below W.heap.size W w1) {a : Addr} {v : Value} (h : W.cell? a = some v) : w1.cell? a = some v := (hb.cell (block_of_cell h)).trans h
theorem below_two {w : World} (o1 o2 : Obj) : Below w.heap.size w ((w.alloc o1).alloc o2) := ((Below.refl _ _).alloc (Nat.le_refl _) _).alloc (by simp) _

set_option maxRecDepth 100000 in
set_option maxHeartbeats 4000000 in
theorem isOther_any (a : Ar.Are) (A : Option Addr) (c : Nat) (P : Nat → Option Addr × Nat) (m : Ar.Mv) (w : World) (hA : ArM w A P a) :
    Calls Tryz.prog 11 #[arV A c a, mvV m] w fun e w' => e = .returned (.tuple #[.bool (Ar.otherOf a m), .int .i64 (Ar.findErr a m : Int)]) ∧ Below w.heap.size w w' := by
  have hB0 := below_two (w := w) (.cells #[.slice A a.ids.length c, .bool a.root.cell, .int .i64 a.root.n, .bool a.jumps] 27 (0, 0)) (mvO m)
  have hm0 := Lib.hid (two_new2 w (.cells #[.slice A a.ids.length c, .bool a.root.cell, .int .i64 a.root.n, .bool a.jumps] 27 (0, 0)) (mvO m))
  have HF := Lib.hid (find_any a A c P m _ (hA.below hB0))
  obtain ⟨A1, n1, c1, x1, x2, x3, hx⟩ := findRt_form a A c m
  rw [hx] at HF
  have hav : arV A c a = .agg #[.slice A a.ids.length c, .bool a.root.cell, .int .i64 a.root.n, .bool a.jumps] := rfl
  have hmv : mvV m = .agg #[.int .i64 m.id, .int .i64 m.arg, .int .u8 m.kind, .int .i64 m.n] := rfl
  rw [hav, hmv] at HF ⊢
  unfold mvO at HF hB0 hm0
  clear hx hA
  by_cases h0 : Ar.findErr a m = 0
  · obtain ⟨p, hp, -⟩ := Ar.findPl_some h0
    have ho : Ar.otherOf a m = (Ar.isId p != Ar.isQ m) := by unfold Ar.otherOf; rw [hp]
    have hpr : plRes (some p) = .agg #[.bool p.base.cell, .int .i64 p.base.n, .int .i64 p.id, .int .i64 p.arg, .bool p.jumps] := rfl
    have hpv : plV p = .agg #[.bool p.base.cell, .int .i64 p.base.n, .int .i64 p.id, .int .i64 p.arg, .bool p.jumps] := rfl
    have HI := Lib.hid (fun W => isIdentifier_any p W)
    have HQ := Lib.hid (fun W => isQuestion_any m W)
    rw [hpv] at HI
    rw [hmv] at HQ
    rw [hp, hpr, h0] at HF
    rw [ho, h0]
    clear ho hpr hpv hp h0 hav hmv
    generalize Ar.isId p = bi at *
    generalize Ar.isQ m = bq at *
    go_enter Tryz.func11, Tryz.ntmps11
    go_wp2_with (go_at_call 33; refine HF.out.mono ?_; rintro e w2 ⟨rfl, hB2⟩; have hBw2 := hB0.trans (hB2.mono hB0.size); have m2 := Lib.hid ((hB2.block _ (lt_of_heap hm0.out)).trans hm0.out))
    have hB3 := below_two (w := w2) (.cells #[.slice A1 n1 c1, .bool x1, .int .i64 x2, .bool x3] 66 (0, 0)) (.cells #[.bool p.base.cell, .int .i64 p.base.n, .int .i64 p.id, .int .i64 p.arg, .bool p.jumps] 68 (0, 0))
    have p3 := Lib.hid (two_new2 w2 (.cells #[.slice A1 n1 c1, .bool x1, .int .i64 x2, .bool x3] 66 (0, 0)) (.cells #[.bool p.base.cell, .int .i64 p.base.n, .int .i64 p.id, .int .i64 p.arg, .bool p.jumps] 68 (0, 0)))
    have m3 := Lib.hid ((hB3.block _ (lt_of_heap m2.out)).trans m2.out)
    have hBw3 := hBw2.trans (hB3.mono hBw2.size)
    generalize (w2.alloc (.cells #[.slice A1 n1 c1, .bool x1, .int .i64 x2, .bool x3] 66 (0, 0))).alloc (.cells #[.bool p.base.cell, .int .i64 p.base.n, .int .i64 p.id, .int .i64 p.arg, .bool p.jumps] 68 (0, 0)) = w3 at *
    obtain ⟨o0, o1, o2, o3, o4⟩ := plO_cells (p := p) p3.out
    obtain ⟨q0, q1, q2, q3⟩ := mvO_cells (m := m) m3.out
    have hmx : Tryz.prog.follows .mixedOrders = true := by kernel_rfl
    clear hB0 hB2 hB3 HF m2 hBw2 hm0
    have l1 := lt_of_heap p3.out
    have l2 := lt_of_heap m3.out
    go_region_held3 (fun w' => w'.cell? ⟨w2.heap.size + 1, 0, none⟩ = some (.bool p.base.cell) ∧ w'.cell? ⟨w2.heap.size + 1, 1, none⟩ = some (.int .i64 p.base.n) ∧ w'.cell? ⟨w2.heap.size + 1, 2, none⟩ = some (.int .i64 p.id) ∧ w'.cell? ⟨w2.heap.size + 1, 3, none⟩ = some (.int .i64 p.arg) ∧ w'.cell? ⟨w2.heap.size + 1, 4, none⟩ = some (.bool p.jumps) ∧
        w'.cell? ⟨w.heap.size + 1, 0, none⟩ = some (.int .i64 m.id) ∧ w'.cell? ⟨w.heap.size + 1, 1, none⟩ = some (.int .i64 m.arg) ∧ w'.cell? ⟨w.heap.size + 1, 2, none⟩ = some (.int .u8 m.kind) ∧ w'.cell? ⟨w.heap.size + 1, 3, none⟩ = some (.int .i64 m.n))
      (first
        | exact ⟨o0, o1, o2, o3, o4, q0, q1, q2, q3⟩
        | exact ⟨keep_cell hB4 (by assumption), keep_cell hB4 (by assumption), keep_cell hB4 (by assumption), keep_cell hB4 (by assumption), keep_cell hB4 (by assumption), keep_cell hB4 (by assumption), keep_cell hB4 (by assumption), keep_cell hB4 (by assumption), keep_cell hB4 (by assumption)⟩
        | exact ⟨keep_cell hB5 (by first | assumption | simp [*]), keep_cell hB5 (by first | assumption | simp [*]), keep_cell hB5 (by first | assumption | simp [*]), keep_cell hB5 (by first | assumption | simp [*]), keep_cell hB5 (by first | assumption | simp [*]), keep_cell hB5 (by first | assumption | simp [*]), keep_cell hB5 (by first | assumption | simp [*]), keep_cell hB5 (by first | assumption | simp [*]), keep_cell hB5 (by first | assumption | simp [*])⟩
        | go_keep)
      ((first
        | (go_at_call 34; refine (HI.out _).mono ?_; rintro e w4 ⟨rfl, hB4⟩)
        | (go_at_call 35; refine (HQ.out _).mono ?_; rintro e w5 ⟨rfl, hB5⟩)))
    go_wp2
    go_ret2
    exact ⟨by cases bi <;> cases bq <;> rfl, hBw3.drew.trans ((hB4.trans (hB5.mono hB4.size)).mono hBw3.size)⟩
  · have ho : Ar.otherOf a m = false := by
      unfold Ar.otherOf Ar.findPl
      rw [if_neg h0]
    rw [ho]
    obtain ⟨p, hpr⟩ := plRes_form (Ar.findPl a m)
    rw [hpr] at HF
    have hne : ((Ar.findErr a m : Int) != 0) = true := by rw [bne_iff_ne]; omega
    clear ho hpr h0 hav hmv
    generalize Ar.findErr a m = er at *
    go_enter Tryz.func11, Tryz.ntmps11
    go_wp2_with (go_at_call 33; refine HF.out.mono ?_; rintro e w2 ⟨rfl, hB2⟩; have hBw2 := hB0.trans (hB2.mono hB0.size))
    go_ret2
    exact ⟨rfl, hBw2.trans ((below_two _ _).mono hBw2.size)⟩
end Go.Proofs.YtepdlghobopdbaaGreatDoor
