/-
  WALKS: an arena is the same as itself, wherever both lie.
-/
import Derived.Test.YtepdlghobopdbaaGreatDoorDc
import Derived.BigQuiet
import Derived.Deep.QuietTactic
namespace Go.Proofs.YtepdlghobopdbaaGreatDoor
open Go.RowKit Go.Shelf

theorem below_drewN {B : Nat} {a w : World} (h : Below B a w) (k : Nat) : Below B a (w.drewN k) := ⟨h.os, h.tape, h.output, h.size, h.block⟩
theorem bs_equal (w : World) (b : Ar.Bs) : (Op.equalIn 10000 25 (.agg #[.bool b.cell, .int .i64 b.n]) (.agg #[.bool b.cell, .int .i64 b.n])).run Tryz.prog w = .ok true w := by
  rw [run_equalIn_struct w 9999 25 _ _ (by kernel_rfl) (by kernel_rfl)]
  simp only [Program.fieldsOf, Tryz.underlying25]
  go_simp
theorem bs_neq (w : World) (b : Ar.Bs) : (binOp .neq 25 (.agg #[.bool b.cell, .int .i64 b.n]) (.agg #[.bool b.cell, .int .i64 b.n])).run Tryz.prog w = .ok (.bool false) w := by
  rw [run_neq_struct, bs_equal]; rfl
theorem bs_eql (w : World) (b : Ar.Bs) : (binOp .eql 25 (.agg #[.bool b.cell, .int .i64 b.n]) (.agg #[.bool b.cell, .int .i64 b.n])).run Tryz.prog w = .ok (.bool true) w := by
  rw [run_eql_struct, bs_equal]; rfl

set_option maxRecDepth 100000 in
set_option maxHeartbeats 4000000 in
theorem sameType_any (PA PB : Option Addr) (pc pd : Nat) (t : Ar.Ty) (w : World) (h5 : t.params.length ≤ 1000000) (hA : Bas w w.heap.size PA t.params) (hC : Bas w w.heap.size PB t.params) :
    Calls Tryz.prog 32 #[tyV PA pc t, tyV PB pd t] w fun e w' => e = .returned (.bool true) ∧ Below w.heap.size w w' := by
  have HA := Lib.hid hA; have HC := Lib.hid hC
  have qn := fun W => bs_neq W t.result
  have qg : ∀ (x y : Operand) (xs ys : Array Value) (w : World), (eqGuard .neq 25 x y (.agg xs) (.agg ys)).run Tryz.prog w = .ok () w := fun x y xs ys w => run_eqGuard_agg w _ _ x y xs ys (by kernel_rfl)
  have hB0 := Lib.hid (below_two (w := w) (tyO PA pc t) (tyO PB pd t))
  have h1 := Lib.hid (two_new1 w (tyO PA pc t) (tyO PB pd t))
  have h2 := Lib.hid (two_new2 w (tyO PA pc t) (tyO PB pd t))
  unfold tyV
  unfold tyO at hB0 h1 h2
  have hn2 : ((t.params.length : Int) != (t.params.length : Int)) = false := by rw [bne_eq_false_iff_eq]
  clear hA hC
  obtain ⟨e0, e1, e2⟩ := cells3 h1.out
  obtain ⟨g0, g1, g2⟩ := cells3 h2.out
  go_enter Tryz.func32, Tryz.ntmps32
  go_wp2
  clear e0 e1 e2 g0 g1 g2
  generalize ((w.alloc (.cells #[.slice PA t.params.length pc, .bool t.result.cell, .int .i64 t.result.n] 53 (0, 0))).alloc (.cells #[.slice PB t.params.length pd, .bool t.result.cell, .int .i64 t.result.n] 53 (0, 0))) = W0 at *
  go_loopw [5] (fun i wr => ∃ k : Nat, k ≤ t.params.length ∧ i = .int .i64 k ∧ Hid (Below w.heap.size w wr) ∧ Hid (wr.heap[w.heap.size]? = some (.cells #[.slice PA t.params.length pc, .bool t.result.cell, .int .i64 t.result.n] 53 (0, 0))) ∧ Hid (wr.heap[w.heap.size + 1]? = some (.cells #[.slice PB t.params.length pd, .bool t.result.cell, .int .i64 t.result.n] 53 (0, 0)))) (fun i _ => t.params.length - (intOf i).toNat)
  case atStart => exact ⟨0, Nat.zero_le _, rfl, hB0.out, h1.out, h2.out⟩
  case round =>
    obtain ⟨k, hk, rfl, hB, hb, hb2⟩ := hrel
    obtain ⟨e0, e1, e2⟩ := cells3 hb.out
    obtain ⟨g0, g1, g2⟩ := cells3 hb2.out
    by_cases hlt : k < t.params.length
    · obtain ⟨x, hx⟩ : ∃ x, t.params[k]? = some x := ⟨_, List.getElem?_eq_getElem hlt⟩
      obtain ⟨b, off, hAe, hbB, hc⟩ := (HA.out.below hB.out) (by intro e; rw [e] at hlt; simp at hlt)
      obtain ⟨b', off', hCe, hbB', hc'⟩ := (HC.out.below hB.out) (by intro e; rw [e] at hlt; simp at hlt)
      obtain ⟨c0, c1⟩ := hc k x hx
      obtain ⟨d0, d1⟩ := hc' k x hx
      have qx := fun W => bs_neq W x
      clear hx hc hc'
      subst hAe hCe
      go_wp2
      go_quiet (fail)
      go_wp2
      go_roundw
      case rel => exact ⟨k + 1, by omega, by go_num, below_drewN hB.out _, hb.out, hb2.out⟩
      case measure => simp [intOf]; omega
    · obtain rfl : k = t.params.length := by omega
      go_wp2
      go_ret
      exact ⟨rfl, hB.out⟩

set_option maxRecDepth 100000 in
set_option maxHeartbeats 8000000 in
theorem same_any (a : Ar.Are) (A B : Option Addr) (c d : Nat) (P Q : Nat → Option Addr × Nat) (w : World) (hA : ArM w A P a) (hC : ArM w B Q a) :
    Calls Tryz.prog 9 #[arV A c a, arV B d a] w fun e w' => e = .returned (.bool true) ∧ Below w.heap.size w w' := by
  have HA := Lib.hid hA; have HC := Lib.hid hC
  have hlen := hA.len
  have qn := fun W => bs_neq W a.root
  have qg : ∀ (x y : Operand) (xs ys : Array Value) (w : World), (eqGuard .neq 25 x y (.agg xs) (.agg ys)).run Tryz.prog w = .ok () w := fun x y xs ys w => run_eqGuard_agg w _ _ x y xs ys (by kernel_rfl)
  have hav : arV A c a = .agg #[.slice A a.ids.length c, .bool a.root.cell, .int .i64 a.root.n, .bool a.jumps] := rfl
  have hbv : arV B d a = .agg #[.slice B a.ids.length d, .bool a.root.cell, .int .i64 a.root.n, .bool a.jumps] := rfl
  rw [hav, hbv]
  have hB0 := Lib.hid (below_two (w := w) (.cells #[.slice A a.ids.length c, .bool a.root.cell, .int .i64 a.root.n, .bool a.jumps] 27 (0, 0)) (.cells #[.slice B a.ids.length d, .bool a.root.cell, .int .i64 a.root.n, .bool a.jumps] 27 (0, 0)))
  have h1 := Lib.hid (two_new1 w (.cells #[.slice A a.ids.length c, .bool a.root.cell, .int .i64 a.root.n, .bool a.jumps] 27 (0, 0)) (.cells #[.slice B a.ids.length d, .bool a.root.cell, .int .i64 a.root.n, .bool a.jumps] 27 (0, 0)))
  have h2 := Lib.hid (two_new2 w (.cells #[.slice A a.ids.length c, .bool a.root.cell, .int .i64 a.root.n, .bool a.jumps] 27 (0, 0)) (.cells #[.slice B a.ids.length d, .bool a.root.cell, .int .i64 a.root.n, .bool a.jumps] 27 (0, 0)))
  have hn2 : ((a.ids.length : Int) != (a.ids.length : Int)) = false := by rw [bne_eq_false_iff_eq]
  have hj2 : (a.jumps != a.jumps) = false := by rw [bne_eq_false_iff_eq]
  clear hA hC hav hbv
  obtain ⟨e0, e1, e2, e3, -, -, -, -⟩ := cells4 h1.out
  obtain ⟨g0, g1, g2, g3, -, -, -, -⟩ := cells4 h2.out
  go_enter Tryz.func9, Tryz.ntmps9
  go_wp2
  clear e0 e1 e2 e3 g0 g1 g2 g3
  generalize ((w.alloc (.cells #[.slice A a.ids.length c, .bool a.root.cell, .int .i64 a.root.n, .bool a.jumps] 27 (0, 0))).alloc (.cells #[.slice B a.ids.length d, .bool a.root.cell, .int .i64 a.root.n, .bool a.jumps] 27 (0, 0))) = W0 at *
  go_loopw [5] (fun i wr => ∃ k : Nat, k ≤ a.ids.length ∧ i = .int .i64 k ∧ Hid (Below w.heap.size w wr) ∧ Hid (wr.heap[w.heap.size]? = some (.cells #[.slice A a.ids.length c, .bool a.root.cell, .int .i64 a.root.n, .bool a.jumps] 27 (0, 0))) ∧ Hid (wr.heap[w.heap.size + 1]? = some (.cells #[.slice B a.ids.length d, .bool a.root.cell, .int .i64 a.root.n, .bool a.jumps] 27 (0, 0)))) (fun i _ => a.ids.length - (intOf i).toNat)
  case atStart => exact ⟨0, Nat.zero_le _, rfl, hB0.out, h1.out, h2.out⟩
  case round =>
    obtain ⟨k, hk, rfl, hB, hb, hb2⟩ := hrel
    obtain ⟨e0, e1, e2, e3, -, -, -, -⟩ := cells4 hb.out
    obtain ⟨g0, g1, g2, g3, -, -, -, -⟩ := cells4 hb2.out
    by_cases hlt : k < a.ids.length
    · obtain ⟨t, ht⟩ : ∃ t, a.ids[k]? = some t := ⟨_, List.getElem?_eq_getElem hlt⟩
      obtain ⟨b, off, hAe, hbB, hc⟩ := ((HA.out.below hB.out).tys) (by intro e; rw [e] at hlt; simp at hlt)
      obtain ⟨b', off', hCe, hbB', hc'⟩ := ((HC.out.below hB.out).tys) (by intro e; rw [e] at hlt; simp at hlt)
      obtain ⟨c0, c1, c2, hbas⟩ := hc k t ht
      obtain ⟨d0, d1, d2, hbas'⟩ := hc' k t ht
      have ht5 := HA.out.par t (List.mem_of_getElem? ht)
      have HST := Lib.hid (fun W (hW : Below wr.heap.size wr W) => sameType_any (P k).1 (Q k).1 (P k).2 (Q k).2 t W ht5 ((hbas.below hW).mono hW.size) ((hbas'.below hW).mono hW.size))
      unfold tyV at HST
      generalize (P k).1 = PA at *
      generalize (P k).2 = pc at *
      generalize (Q k).1 = PB at *
      generalize (Q k).2 = pd at *
      clear ht hc hc' hbas hbas'
      subst hAe hCe
      have hq0 : (0 : Int) ≤ (k : Int) := by omega
      have hq1 : (k : Int) < (a.ids.length : Int) := by omega
      go_wp2
      go_region_law (first
        | (go_simp; go_at_call 32; refine (HST.out _ ((Below.refl _ _).drew)).mono ?_; rintro e w4 ⟨rfl, hB4⟩))
      all_goals go_wp2
      all_goals
        go_roundw
        case rel => exact ⟨k + 1, by omega, by go_num, hB.out.drew.trans (hB4.mono hB.out.size), (hB4.block _ (lt_of_heap hb.out)).trans hb.out, (hB4.block _ (lt_of_heap hb2.out)).trans hb2.out⟩
        case measure => simp [intOf]; omega
    · obtain rfl : k = a.ids.length := by omega
      go_wp2
      go_ret
      exact ⟨rfl, hB.out⟩
end Go.Proofs.YtepdlghobopdbaaGreatDoor
