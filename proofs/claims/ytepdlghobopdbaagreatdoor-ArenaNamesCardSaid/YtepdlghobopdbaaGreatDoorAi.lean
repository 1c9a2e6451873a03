/-
  WALKS: moves of a place.
-/
import Derived.Test.YtepdlghobopdbaaGreatDoorAr
namespace Go.Proofs.YtepdlghobopdbaaGreatDoor
open Go.RowKit Go.Shelf
attribute [local go_sem] Oper.semAt_some

def plV (p : Ar.Pl) : Value := .agg #[.bool p.base.cell, .int .i64 p.base.n, .int .i64 p.id, .int .i64 p.arg, .bool p.jumps]
def mvV (m : Ar.Mv) : Value := .agg #[.int .i64 m.id, .int .i64 m.arg, .int .u8 m.kind, .int .i64 m.n]
def plO (p : Ar.Pl) : Obj := .cells #[.bool p.base.cell, .int .i64 p.base.n, .int .i64 p.id, .int .i64 p.arg, .bool p.jumps] 68 (0, 0)
def mvO (m : Ar.Mv) : Obj := .cells #[.int .i64 m.id, .int .i64 m.arg, .int .u8 m.kind, .int .i64 m.n] 37 (0, 0)
def encMv (m : Ar.Mv) : Array Value := #[mvV m]
def encPl (p : Ar.Pl) : Array Value := #[plV p]

theorem plO_cells {W : World} {b : Nat} {p : Ar.Pl} (h : W.heap[b]? = some (plO p)) :
    W.cell? ⟨b, 0, none⟩ = some (.bool p.base.cell) ∧ W.cell? ⟨b, 1, none⟩ = some (.int .i64 p.base.n) ∧ W.cell? ⟨b, 2, none⟩ = some (.int .i64 p.id) ∧ W.cell? ⟨b, 3, none⟩ = some (.int .i64 p.arg) ∧ W.cell? ⟨b, 4, none⟩ = some (.bool p.jumps) := by
  unfold plO at h
  exact ⟨by simp [World.cell?, h], by simp [World.cell?, h], by simp [World.cell?, h], by simp [World.cell?, h], by simp [World.cell?, h]⟩

set_option maxRecDepth 100000 in
set_option maxHeartbeats 1000000 in
theorem move_any (p : Ar.Pl) (kind n : Int) (w : World) :
    Calls Tryz.prog 77 #[plV p, .int .u8 kind, .int .i64 n] w fun e w' => e = .returned (mvV (Ar.mvOf p kind n)) ∧ Below w.heap.size w w' := by
  unfold plV mvV Ar.mvOf
  go_enter Tryz.func77, Tryz.ntmps77
  go_wp2
  refine bodyPost_ret (v := .agg #[.int .i64 p.id, .int .i64 p.arg, .int .u8 kind, .int .i64 n]) (by simp [results, Tryz.results77, go_sem]) rfl ⟨rfl, ?_⟩
  repeat (first | assumption | exact Below.refl _ _ | refine Below.drew ?_ | refine Below.setCell ?_ (by first | omega | (simp; omega) | simp) _ | refine below_drewN ?_ _ | refine Below.alloc ?_ (by first | omega | (simp; omega) | simp) _)

/-- Moves of one kind, as far as k. -/
theorem questions_split (p : Ar.Pl) (hc : p.base.cell = true) (k : Nat) (hk : k ≤ p.base.n.toNat) : Ar.questionsOf p = (Ar.mvOf p 1 0 :: Ar.valsFrom p 2 0 k) ++ Ar.valsFrom p 2 k (p.base.n.toNat - k) := by
  have h : ∀ (a b c : Nat), Ar.valsFrom p 2 c (a + b) = Ar.valsFrom p 2 c a ++ Ar.valsFrom p 2 (c + a) b := fun a => by
    induction a with
    | zero => intro b c; simp [Ar.valsFrom]
    | succ a ih => intro b c; rw [show a + 1 + b = (a + b) + 1 by omega]; simp only [Ar.valsFrom, List.cons_append]; rw [ih b (c + 1), show c + 1 + a = c + (a + 1) by omega]
  unfold Ar.questionsOf Ar.putsOf
  rw [if_pos hc]
  have := h k (p.base.n.toNat - k) 0
  rw [show k + (p.base.n.toNat - k) = p.base.n.toNat by omega, Nat.zero_add] at this
  rw [this]; rfl

theorem puts_none {p : Ar.Pl} (h : p.base.cell = false) : Ar.questionsOf p = [Ar.mvOf p 1 0] := by unfold Ar.questionsOf Ar.putsOf; simp [h]
theorem vals_snoc (p : Ar.Pl) (kind : Int) : ∀ (k c : Nat), Ar.valsFrom p kind c (k + 1) = Ar.valsFrom p kind c k ++ [Ar.mvOf p kind ((c + k : Nat) : Int)]
  | 0, c => by simp [Ar.valsFrom]
  | k + 1, c => by
    rw [Ar.valsFrom, vals_snoc p kind k (c + 1), Ar.valsFrom, show c + 1 + k = c + (k + 1) by omega]; rfl

set_option maxRecDepth 100000 in
set_option maxHeartbeats 4000000 in
theorem questions_gives (n : Nat) (hn : 1 ≤ n) (p : Ar.Pl) (h64 : p.base.n ≤ 64) : Gives n 43 #[plV p] #[] encMv (Ar.questionsOf p) anyY (fun _ => True) (fun _ => True) := by
  intro y J Jx W hy _ _ hJ hJx hY h0
  refine callsIn_of_wp Tryz.func43 rfl trivial ?_ rfl
  simp only [Tryz.ntmps43, List.size_toArray, List.length_cons, List.length_nil, Nat.reduceAdd, Nat.reduceSub, Array.replicate_succ, Array.replicate_zero, List.push_toArray, List.append_toArray, List.nil_append, List.cons_append]
  have HY := Lib.hid hY; clear hY
  have HJ := Lib.hid hJ; clear hJ
  have HJx := Lib.hid hJx; clear hJx
  have HM := Lib.hid (fun kind nn W => move_any p kind nn W)
  have hE0 : Ext W.heap.size W (W.alloc (plO p)) := (Ext.refl _ _).alloc (Nat.le_refl _) _
  have hj0 := Lib.hid (HJ.out [] _ _ hE0 h0)
  have hb0 := Lib.hid (World.alloc_heap_new W (plO p))
  have hs0 : W.heap.size ≤ (W.alloc (plO p)).heap.size := by simp
  clear h0
  unfold plV at *
  have hpo : plO p = .cells #[.bool p.base.cell, .int .i64 p.base.n, .int .i64 p.id, .int .i64 p.arg, .bool p.jumps] 68 (0, 0) := rfl
  rw [hpo] at hE0 hj0 hb0 hs0
  clear hpo hE0
  rcases hy with ⟨l, rfl⟩ | ⟨B, rfl⟩
  · gi_wp2_with (refine ⟨trivial, ?_⟩; gi_at_call 77; generalize W.alloc (.cells #[.bool p.base.cell, .int .i64 p.base.n, .int .i64 p.id, .int .i64 p.arg, .bool p.jumps] 68) = W1 at *; refine (callsIn_wide.2 (HM.out 1 0 W1)).mono ?_; rintro e w2 ⟨rfl, hB2⟩; have j2 := HJ.out [] _ _ (Ext.of_below hB2 hs0) hj0.out; obtain ⟨fn, tmps, assign, body, hy, hR⟩ := (HY.out [] (Ar.mvOf p 1 0) (Ar.putsOf p) w2 rfl (Nat.le_trans hs0 hB2.size) j2).yield; unfold encMv mvV Ar.mvOf at hy; unfold mvV Ar.mvOf; have HR := Lib.hid hR; clear hR)
    refine HR.out.mono ?_
    rintro e W3 (⟨rfl, hJ3, hK3⟩ | ⟨rfl, hJx3, hK3⟩)
    · have b3 : W3.heap[W.heap.size]? = some (plO p) := hK3.same _ _ ((hB2.block _ (lt_of_heap hb0.out)).trans hb0.out) ⟨by decide, by decide⟩
      obtain ⟨c0, c1, -, -, -⟩ := plO_cells b3
      have B3 := Lib.hid b3; have J3 := Lib.hid hJ3
      have hs3 : W.heap.size + 1 ≤ W3.heap.size := lt_of_heap b3
      clear b3 hJ3 hK3 hy HR hb0 hj0 j2
      cases hc : p.base.cell
      · rw [hc] at c0
        have HQ := Lib.hid (puts_none hc); clear hc
        gi_wp2
        refine bodyPost_ret (results_none rfl _ _ _) rfl ?_
        exact ⟨⟨_, rfl⟩, .inl (by rw [HQ.out]; exact J3.out)⟩
      · rw [hc] at c0
        have HC := Lib.hid hc; clear hc
        gi_wp2
        gi_loopw [19] (fun i wr => ∃ (k : Nat), k ≤ p.base.n.toNat ∧ i = .int .i64 k ∧ Hid (J (Ar.mvOf p 1 0 :: Ar.valsFrom p 2 0 k) wr) ∧ Hid (wr.heap[W.heap.size]? = some (plO p))) (fun i _ => p.base.n.toNat - (intOf i).toNat)
        case atStart => exact ⟨0, Nat.zero_le _, rfl, J3.out, B3.out⟩
        case round =>
          obtain ⟨k, hk, rfl, hjr, hbr⟩ := hrel
          clear c0 c1
          by_cases hlt : (k : Int) < p.base.n
          · have hd : decide ((k : Int) < p.base.n) = true := decide_eq_true hlt
            have HS := Lib.hid (questions_split p HC.out k hk)
            have hv := Lib.hid (Ar.valsFrom_cons p 2 k p.base.n.toNat (by omega))
            have hsr : W.heap.size + 1 ≤ wr.heap.size := lt_of_heap hbr.out
            obtain ⟨d0, d1, d2, d3, d4⟩ := plO_cells hbr.out
            rw [HC.out] at d0
            have hm2 := HM.out 2 k wr
            rw [HC.out] at hm2
            have HM2 := Lib.hid hm2; clear hm2
            gi_wp2_with (refine ⟨trivial, ?_⟩; gi_at_call 77; refine (callsIn_wide.2 HM2.out).mono ?_; rintro e w4 ⟨rfl, hB4⟩; have j4 := HJ.out _ _ _ (Ext.of_below hB4 (by omega)) hjr.out; obtain ⟨fn, tmps, assign, body, hy, hR⟩ := (HY.out _ (Ar.mvOf p 2 k) _ w4 (by rw [HS.out, hv.out]) (by have := hB4.size; omega) j4).yield; unfold encMv mvV Ar.mvOf at hy; unfold mvV Ar.mvOf; have HR := Lib.hid hR; clear hR)
            refine HR.out.mono ?_
            rintro e W5 (⟨rfl, hJ5, hK5⟩ | ⟨rfl, hJx5, hK5⟩)
            · have b5 := Lib.hid (hK5.same _ _ ((hB4.block _ (lt_of_heap hbr.out)).trans hbr.out) ⟨by decide, by decide⟩)
              have J5 := Lib.hid hJ5
              clear hJ5 hK5 hy HR hjr hbr j4 d0 d1 d2 d3 d4
              gi_wp2
              go_roundw
              case rel => exact ⟨k + 1, by omega, by go_num, by rw [Hid, vals_snoc, Nat.zero_add]; exact J5.out, b5.out⟩
              case measure => simp [intOf]; omega
            · gi_wp2
              refine bodyPost_ret (results_none rfl _ _ _) rfl ?_
              exact ⟨⟨_, rfl⟩, .inr hJx5⟩
          · have hd : decide ((k : Int) < p.base.n) = false := decide_eq_false hlt
            obtain rfl : k = p.base.n.toNat := by omega
            gi_wp2
            go_end0
            exact ⟨⟨_, rfl⟩, .inl (by rw [questions_split p HC.out _ (Nat.le_refl _), Nat.sub_self]; simpa [Ar.valsFrom] using hjr.out)⟩
    · gi_wp2
      refine bodyPost_ret (results_none rfl _ _ _) rfl ?_
      exact ⟨⟨_, rfl⟩, .inr hJx3⟩
  · gi_wp2_with (refine ⟨trivial, ?_⟩; gi_at_call 77; generalize W.alloc (.cells #[.bool p.base.cell, .int .i64 p.base.n, .int .i64 p.id, .int .i64 p.arg, .bool p.jumps] 68) = W1 at *; refine (callsIn_wide.2 (HM.out 1 0 W1)).mono ?_; rintro e w2 ⟨rfl, hB2⟩; have j2 := HJ.out [] _ _ (Ext.of_below hB2 hs0) hj0.out; have hR := (HY.out [] (Ar.mvOf p 1 0) (Ar.putsOf p) w2 rfl (Nat.le_trans hs0 hB2.size) j2).grow; unfold encMv mvV Ar.mvOf at hR; unfold mvV Ar.mvOf; have HR := Lib.hid hR; clear hR)
    refine ⟨trivial, ?_⟩
    gi_at_call 78
    refine HR.out.mono ?_
    rintro e W3 (⟨rfl, hJ3, hK3⟩ | ⟨rfl, hJx3, hK3⟩)
    · have b3 : W3.heap[W.heap.size]? = some (plO p) := hK3.same _ _ ((hB2.block _ (lt_of_heap hb0.out)).trans hb0.out) ⟨by decide, by decide⟩
      obtain ⟨c0, c1, -, -, -⟩ := plO_cells b3
      have B3 := Lib.hid b3; have J3 := Lib.hid hJ3
      have hs3 : W.heap.size + 1 ≤ W3.heap.size := lt_of_heap b3
      clear b3 hJ3 hK3 HR hb0 hj0 j2
      cases hc : p.base.cell
      · rw [hc] at c0
        have HQ := Lib.hid (puts_none hc); clear hc
        gi_wp2
        refine bodyPost_ret (results_none rfl _ _ _) rfl ?_
        exact ⟨⟨_, rfl⟩, .inl (by rw [HQ.out]; exact J3.out)⟩
      · rw [hc] at c0
        have HC := Lib.hid hc; clear hc
        gi_wp2
        gi_loopw [19] (fun i wr => ∃ (k : Nat), k ≤ p.base.n.toNat ∧ i = .int .i64 k ∧ Hid (J (Ar.mvOf p 1 0 :: Ar.valsFrom p 2 0 k) wr) ∧ Hid (wr.heap[W.heap.size]? = some (plO p))) (fun i _ => p.base.n.toNat - (intOf i).toNat)
        case atStart => exact ⟨0, Nat.zero_le _, rfl, J3.out, B3.out⟩
        case round =>
          obtain ⟨k, hk, rfl, hjr, hbr⟩ := hrel
          clear c0 c1
          by_cases hlt : (k : Int) < p.base.n
          · have hd : decide ((k : Int) < p.base.n) = true := decide_eq_true hlt
            have HS := Lib.hid (questions_split p HC.out k hk)
            have hv := Lib.hid (Ar.valsFrom_cons p 2 k p.base.n.toNat (by omega))
            have hsr : W.heap.size + 1 ≤ wr.heap.size := lt_of_heap hbr.out
            obtain ⟨d0, d1, d2, d3, d4⟩ := plO_cells hbr.out
            rw [HC.out] at d0
            have hm2 := HM.out 2 k wr
            rw [HC.out] at hm2
            have HM2 := Lib.hid hm2; clear hm2
            gi_wp2_with (refine ⟨trivial, ?_⟩; gi_at_call 77; refine (callsIn_wide.2 HM2.out).mono ?_; rintro e w4 ⟨rfl, hB4⟩; have j4 := HJ.out _ _ _ (Ext.of_below hB4 (by omega)) hjr.out; have hR := (HY.out _ (Ar.mvOf p 2 k) _ w4 (by rw [HS.out, hv.out]) (by have := hB4.size; omega) j4).grow; unfold encMv mvV Ar.mvOf at hR; unfold mvV Ar.mvOf; have HR := Lib.hid hR; clear hR)
            refine ⟨trivial, ?_⟩
            gi_at_call 78
            refine HR.out.mono ?_
            rintro e W5 (⟨rfl, hJ5, hK5⟩ | ⟨rfl, hJx5, hK5⟩)
            · have b5 := Lib.hid (hK5.same _ _ ((hB4.block _ (lt_of_heap hbr.out)).trans hbr.out) ⟨by decide, by decide⟩)
              have J5 := Lib.hid hJ5
              clear hJ5 hK5 HR hjr hbr j4 d0 d1 d2 d3 d4
              gi_wp2
              go_roundw
              case rel => exact ⟨k + 1, by omega, by go_num, by rw [Hid, vals_snoc, Nat.zero_add]; exact J5.out, b5.out⟩
              case measure => simp [intOf]; omega
            · gi_wp2
              refine bodyPost_ret (results_none rfl _ _ _) rfl ?_
              exact ⟨⟨_, rfl⟩, .inr hJx5⟩
          · have hd : decide ((k : Int) < p.base.n) = false := decide_eq_false hlt
            obtain rfl : k = p.base.n.toNat := by omega
            gi_wp2
            go_end0
            exact ⟨⟨_, rfl⟩, .inl (by rw [questions_split p HC.out _ (Nat.le_refl _), Nat.sub_self]; simpa [Ar.valsFrom] using hjr.out)⟩
    · gi_wp2
      refine bodyPost_ret (results_none rfl _ _ _) rfl ?_
      exact ⟨⟨_, rfl⟩, .inr hJx3⟩
end Go.Proofs.YtepdlghobopdbaaGreatDoor
