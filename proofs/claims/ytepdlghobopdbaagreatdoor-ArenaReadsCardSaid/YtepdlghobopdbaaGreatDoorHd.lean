/-
  WALKS: whether two arenas are the same.
-/
import Derived.Test.YtepdlghobopdbaaGreatDoorDd
namespace Go.Proofs.YtepdlghobopdbaaGreatDoor
open Go.RowKit Go.Shelf

theorem bs_equal2 (w : World) (x y : Ar.Bs) : (Op.equalIn 10000 25 (.agg #[.bool x.cell, .int .i64 x.n]) (.agg #[.bool y.cell, .int .i64 y.n])).run Tryz.prog w = .ok (decide (x = y)) w := by
  rw [run_equalIn_struct w 9999 25 _ _ (by kernel_rfl) (by kernel_rfl)]
  simp only [Program.fieldsOf, Tryz.underlying25]
  go_simp
  obtain ⟨xc, xn⟩ := x
  obtain ⟨yc, yn⟩ := y
  by_cases h1 : xc = yc
  · by_cases h2 : xn = yn <;> simp [h1, h2]
  · simp [h1]
theorem bs_neqN (w : World) {x y : Ar.Bs} (h : x ≠ y) : (binOp .neq 25 (.agg #[.bool x.cell, .int .i64 x.n]) (.agg #[.bool y.cell, .int .i64 y.n])).run Tryz.prog w = .ok (.bool true) w := by
  rw [run_neq_struct, bs_equal2, decide_eq_false h]; rfl

set_option maxRecDepth 100000 in
set_option maxHeartbeats 4000000 in
theorem sameTypeD_any (PA PB : Option Addr) (pc pd : Nat) (t u : Ar.Ty) (w : World) (h5 : t.params.length ≤ 1000000) (hA : Bas w w.heap.size PA t.params) (hC : Bas w w.heap.size PB u.params) :
    Calls Tryz.prog 32 #[tyV PA pc t, tyV PB pd u] w fun e w' => e = .returned (.bool (decide (t = u))) ∧ Below w.heap.size w w' := by
  have HA := Lib.hid hA; have HC := Lib.hid hC
  have qg : ∀ (x y : Operand) (xs ys : Array Value) (w : World), (eqGuard .neq 25 x y (.agg xs) (.agg ys)).run Tryz.prog w = .ok () w := fun x y xs ys w => run_eqGuard_agg w _ _ x y xs ys (by kernel_rfl)
  have hB0 := Lib.hid (below_two (w := w) (tyO PA pc t) (tyO PB pd u))
  have h1 := Lib.hid (two_new1 w (tyO PA pc t) (tyO PB pd u))
  have h2 := Lib.hid (two_new2 w (tyO PA pc t) (tyO PB pd u))
  unfold tyV
  unfold tyO at hB0 h1 h2
  clear hA hC
  by_cases hl : t.params.length = u.params.length
  · rw [← hl] at h1 h2 hB0 ⊢
    have hn2 : ((t.params.length : Int) != (t.params.length : Int)) = false := by rw [bne_eq_false_iff_eq]
    by_cases hr : t.result = u.result
    · rw [← hr] at h1 h2 hB0 ⊢
      have hd : decide (t = u) = decide (t.params = u.params) := by
        obtain ⟨p, r⟩ := t
        obtain ⟨q, s⟩ := u
        simp only at hr
        subst hr
        simp
      obtain ⟨R, hR⟩ : ∃ R, decide (t.params = u.params) = R := ⟨_, rfl⟩
      rw [hd, hR]
      have HR := Lib.hid hR
      have qn := fun W => bs_neq W t.result
      have HL := Lib.hid hl
      clear hd hR hr hl
      obtain ⟨e0, e1, e2⟩ := cells3 h1.out
      obtain ⟨g0, g1, g2⟩ := cells3 h2.out
      go_enter Tryz.func32, Tryz.ntmps32
      go_wp2
      clear e0 e1 e2 g0 g1 g2
      generalize ((w.alloc (.cells #[.slice PA t.params.length pc, .bool t.result.cell, .int .i64 t.result.n] 53 (0, 0))).alloc (.cells #[.slice PB t.params.length pd, .bool t.result.cell, .int .i64 t.result.n] 53 (0, 0))) = W0 at *
      go_loopw [5] (fun i wr => ∃ k : Nat, k ≤ t.params.length ∧ i = .int .i64 k ∧ Hid (t.params.take k = u.params.take k) ∧ Hid (Below w.heap.size w wr) ∧ Hid (wr.heap[w.heap.size]? = some (.cells #[.slice PA t.params.length pc, .bool t.result.cell, .int .i64 t.result.n] 53 (0, 0))) ∧ Hid (wr.heap[w.heap.size + 1]? = some (.cells #[.slice PB t.params.length pd, .bool t.result.cell, .int .i64 t.result.n] 53 (0, 0)))) (fun i _ => t.params.length - (intOf i).toNat)
      case atStart => exact ⟨0, Nat.zero_le _, rfl, rfl, hB0.out, h1.out, h2.out⟩
      case round =>
        obtain ⟨k, hk, rfl, hT, hB, hb, hb2⟩ := hrel
        obtain ⟨e0, e1, e2⟩ := cells3 hb.out
        obtain ⟨g0, g1, g2⟩ := cells3 hb2.out
        by_cases hlt : k < t.params.length
        · have hlt2 : Hid (k < u.params.length) := by have := HL.out; rw [Hid]; omega
          obtain ⟨x, hx⟩ : ∃ x, t.params[k]? = some x := ⟨_, List.getElem?_eq_getElem hlt⟩
          obtain ⟨y, hy⟩ : ∃ y, u.params[k]? = some y := ⟨_, List.getElem?_eq_getElem hlt2.out⟩
          obtain ⟨b, off, hAe, hbB, hc⟩ := (HA.out.below hB.out) (by intro e; rw [e] at hlt; simp at hlt)
          obtain ⟨b', off', hCe, hbB', hc'⟩ := (HC.out.below hB.out) (by intro e; have := hlt2.out; rw [e] at this; simp at this)
          obtain ⟨c0, c1⟩ := hc k x hx
          obtain ⟨d0, d1⟩ := hc' k y hy
          have HX := Lib.hid hx; have HY := Lib.hid hy
          clear hc hc' hx hy
          subst hAe hCe
          by_cases hxy : x = y
          · subst hxy
            have qx := fun W => bs_neq W x
            go_wp2
            go_quiet (fail)
            go_wp2
            go_roundw
            case rel => exact ⟨k + 1, by omega, by go_num, by rw [Hid, List.take_add_one, List.take_add_one, hT.out, HX.out, HY.out], below_drewN hB.out _, hb.out, hb2.out⟩
            case measure => simp [intOf]; omega
          · have qx := fun W => bs_neqN W hxy
            have HXY := Lib.hid hxy
            clear hxy
            go_wp2
            go_quiet (fail)
            go_wp2
            go_ret
            refine ⟨ret_bool ?_, below_drewN hB.out _⟩
            rw [← HR.out]
            exact (decide_eq_false (fun e => HXY.out (by have h1 := HX.out; rw [e, HY.out] at h1; exact (Option.some.inj h1).symm))).symm
        · obtain rfl : k = t.params.length := by omega
          go_wp2
          go_ret
          refine ⟨ret_bool ?_, hB.out⟩
          rw [← HR.out]
          have h1 := hT.out
          have h2 := HL.out
          rw [List.take_length, h2, List.take_length] at h1
          exact (decide_eq_true h1).symm
    · have hd : decide (t = u) = false := decide_eq_false (fun e => hr (by rw [e]))
      rw [hd]
      have qn := fun W => bs_neqN W hr
      clear hd hl hr
      obtain ⟨e0, e1, e2⟩ := cells3 h1.out
      obtain ⟨g0, g1, g2⟩ := cells3 h2.out
      go_enter Tryz.func32, Tryz.ntmps32
      go_wp2
      go_ret
      exact ⟨rfl, hB0.out⟩
  · have hd : decide (t = u) = false := decide_eq_false (fun e => hl (by rw [e]))
    rw [hd]
    have hn2 : ((t.params.length : Int) != (u.params.length : Int)) = true := by rw [bne_iff_ne]; omega
    clear hd hl
    obtain ⟨e0, e1, e2⟩ := cells3 h1.out
    obtain ⟨g0, g1, g2⟩ := cells3 h2.out
    go_enter Tryz.func32, Tryz.ntmps32
    go_wp2
    go_ret
    exact ⟨rfl, hB0.out⟩

set_option maxRecDepth 100000 in
set_option maxHeartbeats 8000000 in
theorem sameD_any (a z : Ar.Are) (A B : Option Addr) (c d : Nat) (P Q : Nat → Option Addr × Nat) (w : World) (hA : ArM w A P a) (hC : ArM w B Q z) :
    Calls Tryz.prog 9 #[arV A c a, arV B d z] w fun e w' => e = .returned (.bool (decide (a = z))) ∧ Below w.heap.size w w' := by
  have HA := Lib.hid hA; have HC := Lib.hid hC
  have hlen := hA.len
  have qg : ∀ (x y : Operand) (xs ys : Array Value) (w : World), (eqGuard .neq 25 x y (.agg xs) (.agg ys)).run Tryz.prog w = .ok () w := fun x y xs ys w => run_eqGuard_agg w _ _ x y xs ys (by kernel_rfl)
  have hav : arV A c a = .agg #[.slice A a.ids.length c, .bool a.root.cell, .int .i64 a.root.n, .bool a.jumps] := rfl
  have hbv : arV B d z = .agg #[.slice B z.ids.length d, .bool z.root.cell, .int .i64 z.root.n, .bool z.jumps] := rfl
  rw [hav, hbv]
  have hB0 := Lib.hid (below_two (w := w) (.cells #[.slice A a.ids.length c, .bool a.root.cell, .int .i64 a.root.n, .bool a.jumps] 27 (0, 0)) (.cells #[.slice B z.ids.length d, .bool z.root.cell, .int .i64 z.root.n, .bool z.jumps] 27 (0, 0)))
  have h1 := Lib.hid (two_new1 w (.cells #[.slice A a.ids.length c, .bool a.root.cell, .int .i64 a.root.n, .bool a.jumps] 27 (0, 0)) (.cells #[.slice B z.ids.length d, .bool z.root.cell, .int .i64 z.root.n, .bool z.jumps] 27 (0, 0)))
  have h2 := Lib.hid (two_new2 w (.cells #[.slice A a.ids.length c, .bool a.root.cell, .int .i64 a.root.n, .bool a.jumps] 27 (0, 0)) (.cells #[.slice B z.ids.length d, .bool z.root.cell, .int .i64 z.root.n, .bool z.jumps] 27 (0, 0)))
  clear hA hC hav hbv
  by_cases hl : a.ids.length = z.ids.length
  · rw [← hl] at h1 h2 hB0 ⊢
    have hn2 : ((a.ids.length : Int) != (a.ids.length : Int)) = false := by rw [bne_eq_false_iff_eq]
    by_cases hr : a.root = z.root
    · rw [← hr] at h1 h2 hB0 ⊢
      have qn := fun W => bs_neq W a.root
      by_cases hj : a.jumps = z.jumps
      · rw [← hj] at h1 h2 hB0 ⊢
        have hj2 : (a.jumps != a.jumps) = false := by rw [bne_eq_false_iff_eq]
        have hd : decide (a = z) = decide (a.ids = z.ids) := by
          obtain ⟨p, r, j⟩ := a
          obtain ⟨q, s, i⟩ := z
          simp only at hr hj
          subst hr hj
          simp
        obtain ⟨R, hR⟩ : ∃ R, decide (a.ids = z.ids) = R := ⟨_, rfl⟩
        rw [hd, hR]
        have HR := Lib.hid hR
        have HL := Lib.hid hl
        clear hd hR hr hl hj
        obtain ⟨e0, e1, e2, e3, -, -, -, -⟩ := cells4 h1.out
        obtain ⟨g0, g1, g2, g3, -, -, -, -⟩ := cells4 h2.out
        go_enter Tryz.func9, Tryz.ntmps9
        go_wp2
        clear e0 e1 e2 e3 g0 g1 g2 g3
        generalize ((w.alloc (.cells #[.slice A a.ids.length c, .bool a.root.cell, .int .i64 a.root.n, .bool a.jumps] 27 (0, 0))).alloc (.cells #[.slice B a.ids.length d, .bool a.root.cell, .int .i64 a.root.n, .bool a.jumps] 27 (0, 0))) = W0 at *
        go_loopw [5] (fun i wr => ∃ k : Nat, k ≤ a.ids.length ∧ i = .int .i64 k ∧ Hid (a.ids.take k = z.ids.take k) ∧ Hid (Below w.heap.size w wr) ∧ Hid (wr.heap[w.heap.size]? = some (.cells #[.slice A a.ids.length c, .bool a.root.cell, .int .i64 a.root.n, .bool a.jumps] 27 (0, 0))) ∧ Hid (wr.heap[w.heap.size + 1]? = some (.cells #[.slice B a.ids.length d, .bool a.root.cell, .int .i64 a.root.n, .bool a.jumps] 27 (0, 0)))) (fun i _ => a.ids.length - (intOf i).toNat)
        case atStart => exact ⟨0, Nat.zero_le _, rfl, rfl, hB0.out, h1.out, h2.out⟩
        case round =>
          obtain ⟨k, hk, rfl, hT, hB, hb, hb2⟩ := hrel
          obtain ⟨e0, e1, e2, e3, -, -, -, -⟩ := cells4 hb.out
          obtain ⟨g0, g1, g2, g3, -, -, -, -⟩ := cells4 hb2.out
          by_cases hlt : k < a.ids.length
          · have hlt2 : Hid (k < z.ids.length) := by have := HL.out; rw [Hid]; omega
            obtain ⟨t, ht⟩ : ∃ t, a.ids[k]? = some t := ⟨_, List.getElem?_eq_getElem hlt⟩
            obtain ⟨u, hu⟩ : ∃ u, z.ids[k]? = some u := ⟨_, List.getElem?_eq_getElem hlt2.out⟩
            obtain ⟨b, off, hAe, hbB, hc⟩ := ((HA.out.below hB.out).tys) (by intro e; rw [e] at hlt; simp at hlt)
            obtain ⟨b', off', hCe, hbB', hc'⟩ := ((HC.out.below hB.out).tys) (by intro e; have := hlt2.out; rw [e] at this; simp at this)
            obtain ⟨c0, c1, c2, hbas⟩ := hc k t ht
            obtain ⟨d0, d1, d2, hbas'⟩ := hc' k u hu
            have ht5 := HA.out.par t (List.mem_of_getElem? ht)
            have HST := Lib.hid (fun W (hW : Below wr.heap.size wr W) => sameTypeD_any (P k).1 (Q k).1 (P k).2 (Q k).2 t u W ht5 ((hbas.below hW).mono hW.size) ((hbas'.below hW).mono hW.size))
            unfold tyV at HST
            generalize (P k).1 = PA at *
            generalize (P k).2 = pc at *
            generalize (Q k).1 = PB at *
            generalize (Q k).2 = pd at *
            have HX := Lib.hid ht; have HY := Lib.hid hu
            clear ht hu hc hc' hbas hbas'
            subst hAe hCe
            have hq0 : (0 : Int) ≤ (k : Int) := by omega
            have hq1 : (k : Int) < (a.ids.length : Int) := by omega
            by_cases htu : t = u
            · rw [decide_eq_true htu] at HST
              have HTU := Lib.hid htu
              clear htu
              go_wp2
              go_region_law (first
                | (go_simp; go_at_call 32; refine (HST.out _ ((Below.refl _ _).drew)).mono ?_; rintro e w4 ⟨rfl, hB4⟩))
              all_goals go_wp2
              all_goals
                go_roundw
                case rel => exact ⟨k + 1, by omega, by go_num, by rw [Hid, List.take_add_one, List.take_add_one, hT.out, HX.out, HY.out, HTU.out], hB.out.drew.trans (hB4.mono hB.out.size), (hB4.block _ (lt_of_heap hb.out)).trans hb.out, (hB4.block _ (lt_of_heap hb2.out)).trans hb2.out⟩
                case measure => simp [intOf]; omega
            · rw [decide_eq_false htu] at HST
              have HTU := Lib.hid htu
              clear htu
              go_wp2
              go_region_law (first
                | (go_simp; go_at_call 32; refine (HST.out _ ((Below.refl _ _).drew)).mono ?_; rintro e w4 ⟨rfl, hB4⟩))
              all_goals go_wp2
              all_goals
                go_ret
                refine ⟨ret_bool ?_, hB.out.drew.trans (hB4.mono hB.out.size)⟩
                rw [← HR.out]
                exact (decide_eq_false (fun e => HTU.out (by have h1 := HX.out; rw [e, HY.out] at h1; exact (Option.some.inj h1).symm))).symm
          · obtain rfl : k = a.ids.length := by omega
            go_wp2
            go_ret
            refine ⟨ret_bool ?_, hB.out⟩
            rw [← HR.out]
            have h1 := hT.out
            have h2 := HL.out
            rw [List.take_length, h2, List.take_length] at h1
            exact (decide_eq_true h1).symm
      · have hd : decide (a = z) = false := decide_eq_false (fun e => hj (by rw [e]))
        rw [hd]
        clear hd hl hr HA HC
        generalize a.jumps = ja at *
        generalize z.jumps = jz at *
        cases ja <;> cases jz
        all_goals try exact absurd rfl hj
        all_goals
          clear hj
          obtain ⟨e0, e1, e2, e3, -, -, -, -⟩ := cells4 h1.out
          obtain ⟨g0, g1, g2, g3, -, -, -, -⟩ := cells4 h2.out
          go_enter Tryz.func9, Tryz.ntmps9
          go_wp2
          go_ret
          exact ⟨rfl, hB0.out⟩
    · have hd : decide (a = z) = false := decide_eq_false (fun e => hr (by rw [e]))
      rw [hd]
      have qn := fun W => bs_neqN W hr
      clear hd hl hr
      obtain ⟨e0, e1, e2, e3, -, -, -, -⟩ := cells4 h1.out
      obtain ⟨g0, g1, g2, g3, -, -, -, -⟩ := cells4 h2.out
      go_enter Tryz.func9, Tryz.ntmps9
      go_wp2
      go_ret
      exact ⟨rfl, hB0.out⟩
  · have hd : decide (a = z) = false := decide_eq_false (fun e => hl (by rw [e]))
    rw [hd]
    have hn2 : ((a.ids.length : Int) != (z.ids.length : Int)) = true := by rw [bne_iff_ne]; omega
    clear hd hl
    obtain ⟨e0, e1, e2, e3, -, -, -, -⟩ := cells4 h1.out
    obtain ⟨g0, g1, g2, g3, -, -, -, -⟩ := cells4 h2.out
    go_enter Tryz.func9, Tryz.ntmps9
    go_wp2
    go_ret
    exact ⟨rfl, hB0.out⟩
end Go.Proofs.YtepdlghobopdbaaGreatDoor
