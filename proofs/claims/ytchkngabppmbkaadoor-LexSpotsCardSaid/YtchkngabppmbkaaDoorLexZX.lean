/-
  WALKS: the reference's spots (riposteref01): spotOf, Spot, At.
-/
import Derived.Test.YtchkngabppmbkaaDoorLexR
import Derived.Test.YtchkngabppmbkaaDoorLexZW
import Derived.Laws.Rows
import Derived.Laws.ResultCell
import Derived.Deep.RegionHeld3
namespace Go.Proofs.YtchkngabppmbkaaDoor
open Go.RowKit

def pairV (p : Nat × Nat) : Value := .agg #[.int .i64 (p.1 : Int), .int .i64 (p.2 : Int)]

set_option maxRecDepth 100000 in
set_option maxHeartbeats 4000000 in
theorem refSpotOf_any (s : ByteArray) (k : Nat) (hk : k ≤ s.size) (hs : s.size ≤ 281474976710656) (w : World) :
    Calls Tryd.prog 55 #[.string s, .int .i64 (k : Int)] w fun e w' => e = .returned (.agg #[.int .i64 ((Lx.spotAt s k).1 : Int), .int .i64 ((Lx.spotAt s k).2 : Int)]) ∧ Below w.heap.size w w' := by
  have hr0 := World.alloc_heap_new w (.cells #[.int .i64 0, .int .i64 0] 32)
  have hp0 := World.alloc_heap_new (w.alloc (.cells #[.int .i64 0, .int .i64 0] 32)) (.cells #[.int .i64 1, .int .i64 1] 32)
  have hr1 := (Below.heap_alloc (w.alloc (.cells #[.int .i64 0, .int .i64 0] 32)) (.cells #[.int .i64 1, .int .i64 1] 32) w.heap.size (by simp)).trans hr0
  have hB0 : Below w.heap.size w ((w.alloc (.cells #[.int .i64 0, .int .i64 0] 32)).alloc (.cells #[.int .i64 1, .int .i64 1] 32)) := ((Below.refl _ _).alloc (Nat.le_refl _) _).alloc (by simp) _
  rw [World.size_alloc] at hp0
  clear hr0
  go_enter Tryd.func55, Tryd.ntmps55
  go_wp2
  generalize (w.alloc (.cells #[.int .i64 0, .int .i64 0] 32)).alloc (.cells #[.int .i64 1, .int .i64 1] 32) = W0 at *
  have HP0 := Lib.hid hp0
  have HR1 := Lib.hid hr1
  clear hp0 hr1
  go_loopw [6] (fun i wr => ∃ j : Nat, j ≤ k ∧ i = .int .i64 j ∧ Hid (wr.heap[w.heap.size]? = some (.cells #[.int .i64 0, .int .i64 0] 32 (0, 0))) ∧ Hid (wr.heap[w.heap.size + 1]? = some (spotO (Lx.spotAt s j))) ∧ Below w.heap.size w wr) (fun i _ => k - (intOf i).toNat)
  case atStart => exact ⟨0, Nat.zero_le _, rfl, HR1, HP0, hB0⟩
  case round =>
    obtain ⟨j, hj, rfl, hr, hp, hB⟩ := hrel
    clear HR1 HP0 hB0
    have hle := Lx.spotAt_le s j
    by_cases hlt : j < k
    · have hlt2 : j < s.size := by omega
      have hd : decide ((j : Int) < (k : Int)) = true := decide_eq_true (by omega)
      have hst : Lx.spotAt s (j + 1) = if Lx.byteAt s j = 10 then ((Lx.spotAt s j).1 + 1, 1) else ((Lx.spotAt s j).1, (Lx.spotAt s j).2 + 1) := rfl
      have HST := Lib.hid hst; clear hst
      have HBY := Lib.hid (Lx.byteAt_eq s j hlt2)
      generalize hln : (Lx.spotAt s j).1 = ln at *
      generalize hcl : (Lx.spotAt s j).2 = cl at *
      have hpr : wr.heap[w.heap.size + 1]? = some (.cells #[.int .i64 (ln : Int), .int .i64 (cl : Int)] 32 (0, 0)) := by have := hp.out; rw [spotO, hln, hcl] at this; exact this
      clear hln hcl hp
      obtain ⟨q0, q1, f0, f1⟩ := pair_cells hpr
      have U1 := Lib.hid (pair_set1 (x := .int .i64 ((cl : Int) + 1)) hpr)
      clear hpr
      by_cases h10 : Lx.byteAt s j = 10
      · have hbe : (((s[j].toNat : Nat) : Int) == 10) = true := by rw [← HBY.out, h10]; rfl
        have HS2 : Hid (Lx.spotAt s (j + 1) = (ln + 1, 1)) := by rw [Hid, HST.out, if_pos h10]
        have U3 := Lib.hid (pair_set1 (x := .int .i64 1) (pair_set0 (x := .int .i64 ((ln : Int) + 1)) U1.out))
        clear h10
        go_wp2
        go_roundw
        case rel =>
          refine ⟨j + 1, by omega, by go_num, ?_, by rw [Hid, HS2.out]; exact U3.out, ((hB.setCell (p := ⟨w.heap.size + 1, 1, none⟩) (by simp) _).setCell (p := ⟨w.heap.size + 1, 0, none⟩) (by simp) _).setCell (p := ⟨w.heap.size + 1, 1, none⟩) (by simp) _⟩
          exact (Below.heap_setCell _ _ _ _ (by simp)).trans ((Below.heap_setCell _ _ _ _ (by simp)).trans ((Below.heap_setCell _ _ _ _ (by simp)).trans hr.out))
        case measure => simp [intOf]; omega
      · have hbe : (((s[j].toNat : Nat) : Int) == 10) = false := by
          rw [beq_eq_false_iff_ne]
          intro e
          have := HBY.out
          rw [this] at h10
          exact h10 (UInt8.toNat_inj.1 (by have h : (10 : UInt8).toNat = 10 := rfl; rw [h]; omega))
        have HS2 : Hid (Lx.spotAt s (j + 1) = (ln, cl + 1)) := by rw [Hid, HST.out, if_neg h10]
        clear h10
        go_wp2
        go_roundw
        case rel =>
          exact ⟨j + 1, by omega, by go_num, (Below.heap_setCell _ _ _ _ (by simp)).trans hr.out, by rw [Hid, HS2.out]; exact U1.out, hB.setCell (p := ⟨w.heap.size + 1, 1, none⟩) (by simp) _⟩
        case measure => simp [intOf]; omega
    · obtain rfl : j = k := by omega
      have hd : decide ((j : Int) < (j : Int)) = false := decide_eq_false (by omega)
      obtain ⟨q0, q1, f0, f1⟩ := pair_cells (x := .int .i64 ((Lx.spotAt s j).1 : Int)) (y := .int .i64 ((Lx.spotAt s j).2 : Int)) hp.out
      obtain ⟨g0, g1, e0, e1⟩ := pair_cells hr.out
      have U := Lib.hid (pair_set1 (x := .int .i64 ((Lx.spotAt s j).2 : Int)) (pair_set0 (x := .int .i64 ((Lx.spotAt s j).1 : Int)) hr.out))
      go_wp2
      refine bodyPost_ret (results_cell_row rfl _ _ w.heap.size 32 #[.int .i64 ((Lx.spotAt s j).1 : Int), .int .i64 ((Lx.spotAt s j).2 : Int)] (0, 0) _ rfl U.out Tryd.underlying32 rfl (by kernel_rfl)) rfl ?_
      exact ⟨rfl, (hB.setCell (p := ⟨w.heap.size, 0, none⟩) (Nat.le_refl _) _).setCell (p := ⟨w.heap.size, 1, none⟩) (Nat.le_refl _) _⟩

set_option maxRecDepth 100000 in
set_option maxHeartbeats 4000000 in
theorem refSpot_any (s : ByteArray) (p : Int) (hp0 : -9223372036854775808 ≤ p) (hp1 : p ≤ 9223372036854775807) (hs : s.size ≤ 281474976710656) (w : World) :
    Calls Tryd.prog 25 #[.string s, .int .i64 p] w fun e w' => e = .returned (spotRes (Lx.spotOf s p)) ∧ Below w.heap.size w w' := by
  have HR0 := Lib.hid (World.alloc_heap_new w (.cells #[.int .i64 0, .int .i64 0] 32))
  have hB0 : Below w.heap.size w (w.alloc (.cells #[.int .i64 0, .int .i64 0] 32)) := (Below.refl _ _).alloc (Nat.le_refl _) _
  have HT := Lib.hid (fun W => refTextError_any s W (by omega))
  obtain ⟨r, hr⟩ : ∃ r, Lx.spotOf s p = r := ⟨_, rfl⟩
  rw [hr]
  unfold Lx.spotOf at hr
  have hfin : ∀ (W : World) (a b er : Int) (tm : Array Value), W.heap[w.heap.size]? = some (.cells #[.int .i64 a, .int .i64 b] 32 (0, 0)) → tm.getD 4 undef = .pointer (some ⟨w.heap.size, 0, none⟩) → tm.getD 5 undef = .int .i64 er →
      (results Tryd.f25 tm).run Tryd.prog W = .ok (.tuple #[.agg #[.int .i64 a, .int .i64 b], .int .i64 er]) W := by
    intro W a b er tm h1 h2 h3
    rw [results_cell_tmp (p := 4) (u := 5) (ty := 32) rfl, h2, h3]
    simp [asAddr, Result.andThen, run_loadVar_row W w.heap.size _ 32 _ _ _ h1 Tryd.underlying32 rfl (by kernel_rfl)]
  have HF := Lib.hid hfin; clear hfin
  by_cases h0 : (Lx.textErr s).2 ≠ 0
  · have HRR : Hid (r = ((0, 0), (Lx.textErr s).2)) := by rw [Hid, ← hr, if_pos h0]
    clear hr
    have h0' : (((Lx.textErr s).2 : Int) != 0) = true := by rw [bne_iff_ne]; omega
    generalize (Lx.textErr s).1 = q at *
    generalize (Lx.textErr s).2 = er at *
    clear h0
    obtain ⟨g0, g1, e0, e1⟩ := pair_cells HR0.out
    go_enter Tryd.func25, Tryd.ntmps25
    go_wp2_with (go_at_call 51; refine (HT.out _).mono ?_; rintro e w1 ⟨rfl, rfl⟩)
    refine bodyPost_ret (HF.out _ 0 0 (er : Int) _ HR0.out rfl rfl) rfl ?_
    exact ⟨by rw [HRR.out]; rfl, hB0⟩
  · rw [if_neg h0] at hr
    have HRR := Lib.hid hr; clear hr
    obtain ⟨q, er, hT⟩ : ∃ q er, Lx.textErr s = (q, er) := ⟨_, _, rfl⟩
    rw [hT] at h0 HT
    obtain rfl : er = 0 := by simpa using h0
    clear h0 hT
    obtain ⟨g0, g1, e0, e1⟩ := pair_cells HR0.out
    by_cases hin : 0 ≤ p ∧ p ≤ s.size
    · have HR2 : Hid (r = (Lx.spotAt s p.toNat, 0)) := by rw [Hid, ← HRR.out, if_pos hin]
      obtain ⟨h1, h2⟩ := hin
      obtain ⟨k, rfl⟩ : ∃ k : Nat, p = k := ⟨p.toNat, by omega⟩
      have HC := Lib.hid (fun W => refSpotOf_any s k (by omega) hs W)
      rw [Int.toNat_natCast] at HR2
      have d1 : decide ((k : Int) < 0) = false := decide_eq_false (by omega)
      have d2 : decide ((k : Int) > (s.size : Int)) = false := decide_eq_false (by omega)
      clear HRR
      go_enter Tryd.func25, Tryd.ntmps25
      go_wp2_with (first
        | (go_at_call 55; refine (HC.out _).mono ?_; rintro e w2 ⟨rfl, hB2⟩; have hlw := (Array.getElem?_eq_some_iff.1 HR0.out).1; have R2 := (hB2.block _ hlw).trans HR0.out; obtain ⟨k0, k1, l0, l1⟩ := pair_cells R2; have HU := Lib.hid (pair_set1 (x := .int .i64 ((Lx.spotAt s k).2 : Int)) (pair_set0 (x := .int .i64 ((Lx.spotAt s k).1 : Int)) R2)); clear R2)
        | (go_at_call 51; refine (HT.out _).mono ?_; rintro e w1 ⟨rfl, rfl⟩))
      refine bodyPost_ret (HF.out _ _ _ 0 _ HU.out rfl rfl) rfl ?_
      exact ⟨by rw [HR2.out]; rfl, ((hB0.trans (hB2.mono hB0.size)).setCell (p := ⟨w.heap.size, 0, none⟩) (Nat.le_refl _) _).setCell (p := ⟨w.heap.size, 1, none⟩) (Nat.le_refl _) _⟩
    · have HR2 : Hid (r = ((0, 0), 3)) := by rw [Hid, ← HRR.out, if_neg hin]
      clear HRR
      by_cases h1 : p < 0
      · have d1 : decide (p < 0) = true := decide_eq_true h1
        clear hin
        go_enter Tryd.func25, Tryd.ntmps25
        go_wp2_with (go_at_call 51; refine (HT.out _).mono ?_; rintro e w1 ⟨rfl, rfl⟩)
        refine bodyPost_ret (HF.out _ 0 0 3 _ HR0.out rfl rfl) rfl ?_
        exact ⟨by rw [HR2.out]; rfl, hB0⟩
      · have d1 : decide (p < 0) = false := decide_eq_false h1
        have d2 : decide (p > (s.size : Int)) = true := decide_eq_true (by omega)
        clear hin
        go_enter Tryd.func25, Tryd.ntmps25
        go_wp2_with (go_at_call 51; refine (HT.out _).mono ?_; rintro e w1 ⟨rfl, rfl⟩)
        refine bodyPost_ret (HF.out _ 0 0 3 _ HR0.out rfl rfl) rfl ?_
        exact ⟨by rw [HR2.out]; rfl, hB0⟩

set_option maxRecDepth 100000 in
set_option maxHeartbeats 4000000 in
theorem refAt_any (s : ByteArray) (l c : Int) (hs : s.size ≤ 281474976710656) (w : World) :
    Calls Tryd.prog 27 #[.string s, .agg #[.int .i64 l, .int .i64 c]] w fun e w' => e = .returned (atRes (Lx.atOf s l c)) ∧ Below w.heap.size w w' := by
  have HR0 := Lib.hid (World.alloc_heap_new w (.cells #[.int .i64 l, .int .i64 c] 32))
  have hB0 : Below w.heap.size w (w.alloc (.cells #[.int .i64 l, .int .i64 c] 32)) := (Below.refl _ _).alloc (Nat.le_refl _) _
  have HT := Lib.hid (fun W => refTextError_any s W (by omega))
  obtain ⟨r, hr⟩ : ∃ r, Lx.atOf s l c = r := ⟨_, rfl⟩
  rw [hr]
  unfold Lx.atOf at hr
  by_cases h0 : (Lx.textErr s).2 ≠ 0
  · have HRR : Hid (r = (0, (Lx.textErr s).2)) := by rw [Hid, ← hr, if_pos h0]
    clear hr
    have h0' : (((Lx.textErr s).2 : Int) != 0) = true := by rw [bne_iff_ne]; omega
    generalize (Lx.textErr s).1 = q at *
    generalize (Lx.textErr s).2 = er at *
    clear h0
    go_enter Tryd.func27, Tryd.ntmps27
    go_wp2_with (go_at_call 51; refine (HT.out _).mono ?_; rintro e w1 ⟨rfl, rfl⟩)
    go_ret2
    exact ⟨by rw [HRR.out]; rfl, hB0⟩
  · rw [if_neg h0] at hr
    have HRR := Lib.hid hr; clear hr
    obtain ⟨q, er, hT⟩ : ∃ q er, Lx.textErr s = (q, er) := ⟨_, _, rfl⟩
    rw [hT] at h0 HT
    obtain rfl : er = 0 := by simpa using h0
    clear h0 hT
    have HC := Lib.hid (fun k (hk : k ≤ s.size) W => refSpotOf_any s k hk hs W)
    go_enter Tryd.func27, Tryd.ntmps27
    go_wp2_with (go_at_call 51; refine (HT.out _).mono ?_; rintro e w1 ⟨rfl, rfl⟩)
    generalize w.alloc (.cells #[.int .i64 l, .int .i64 c] 32) = W0 at *
    go_loopw [8] (fun i wr => ∃ k : Nat, k ≤ s.size + 1 ∧ i = .int .i64 k ∧ Hid (Lx.atFrom s l c (s.size + 1 - k) k = r) ∧ Hid (wr.heap[w.heap.size]? = some (.cells #[.int .i64 l, .int .i64 c] 32 (0, 0))) ∧ Below w.heap.size w wr) (fun i _ => s.size + 1 - (intOf i).toNat)
    case atStart => exact ⟨0, Nat.zero_le _, rfl, HRR, HR0, hB0⟩
    case round =>
      obtain ⟨k, hk, rfl, hat, hbx, hB⟩ := hrel
      have hsz := hB.size
      by_cases hlt : k ≤ s.size
      · have hd : decide ((k : Int) ≤ (s.size : Int)) = true := decide_eq_true (by omega)
        have qe := run_eql_sp
        have qg : ∀ (x y : Operand) (xs ys : Array Value) (w : World), (eqGuard .eql 32 x y (.agg xs) (.agg ys)).run Tryd.prog w = .ok () w := fun x y xs ys w => run_eqGuard_agg w _ _ x y xs ys (by kernel_rfl)
        have HCK := Lib.hid (HC.out k hlt wr.drew)
        obtain ⟨c0, c1, f0, f1⟩ := pair_cells hbx.out
        have hlw : w.heap.size < wr.heap.size := (Array.getElem?_eq_some_iff.1 hbx.out).1
        cases hq : spEq (Lx.spotAt s k).1 (Lx.spotAt s k).2 l c
        · have hq' : Lx.isSpot s l c k = false := hq
          have hjo := hat.out
          rw [show s.size + 1 - k = (s.size + 1 - (k + 1)) + 1 by omega, Lx.atFrom_miss _ hq'] at hjo
          have HJ := Lib.hid hjo; clear hjo hq' hat
          go_wp2
          go_region_held3 (fun w' => w'.cell? ⟨w.heap.size, 0, none⟩ = some (.int .i64 l) ∧ w'.cell? ⟨w.heap.size, 1, none⟩ = some (.int .i64 c)) (first | exact ⟨c0, c1⟩ | exact ⟨e0, e1⟩ | go_keep)
            ((go_at_call 55; refine HCK.out.mono ?_; rintro e w2 ⟨rfl, hB2⟩; have B2 := Lib.hid ((hB2.block w.heap.size (by simpa using hlw)).trans (show wr.drew.heap[w.heap.size]? = _ from hbx.out)); have e01 := pair_cells B2.out; have e0 := e01.1; have e1 := e01.2.1; clear e01; have hB3 := hB.drew.trans (hB2.mono (by simpa using hsz))))
          go_wp2
          go_roundw
          case rel => exact ⟨k + 1, by omega, by go_num, HJ.out, B2.out, hB3⟩
          case measure => simp [intOf]; omega
        · have hq' : Lx.isSpot s l c k = true := hq
          have hjo := hat.out
          rw [show s.size + 1 - k = (s.size + 1 - (k + 1)) + 1 by omega, Lx.atFrom_hit _ hq'] at hjo
          have HJ := Lib.hid hjo; clear hjo hq' hat
          go_wp2
          go_region_held3 (fun w' => w'.cell? ⟨w.heap.size, 0, none⟩ = some (.int .i64 l) ∧ w'.cell? ⟨w.heap.size, 1, none⟩ = some (.int .i64 c)) (first | exact ⟨c0, c1⟩ | exact ⟨e0, e1⟩ | go_keep)
            ((go_at_call 55; refine HCK.out.mono ?_; rintro e w2 ⟨rfl, hB2⟩; have B2 := Lib.hid ((hB2.block w.heap.size (by simpa using hlw)).trans (show wr.drew.heap[w.heap.size]? = _ from hbx.out)); have e01 := pair_cells B2.out; have e0 := e01.1; have e1 := e01.2.1; clear e01; have hB3 := hB.drew.trans (hB2.mono (by simpa using hsz))))
          go_wp2
          go_ret2
          exact ⟨by rw [← HJ.out]; rfl, hB3⟩
      · obtain rfl : k = s.size + 1 := by omega
        have hd : decide (((s.size + 1 : Nat) : Int) ≤ (s.size : Int)) = false := decide_eq_false (by omega)
        have hjo := hat.out
        rw [Nat.sub_self] at hjo
        have HJ := Lib.hid hjo; clear hjo hat
        go_wp2
        go_ret2
        exact ⟨by rw [← HJ.out]; rfl, hB⟩
end Go.Proofs.YtchkngabppmbkaaDoor
