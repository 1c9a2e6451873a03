/-
  WALKS: what can be told at a place.
-/
import Derived.Test.YtepdlghobopdbaaGreatDoorAi
namespace Go.Proofs.YtepdlghobopdbaaGreatDoor
open Go.RowKit Go.Shelf
attribute [local go_sem] Oper.semAt_some

theorem tells_split (p : Ar.Pl) (v k : Nat) (hk : k ≤ v) : Ar.tellsOf p v = (Ar.escOf p ++ Ar.valsFrom p 3 0 k) ++ Ar.valsFrom p 3 k (v - k) := by
  have h : ∀ (a b c : Nat), Ar.valsFrom p 3 c (a + b) = Ar.valsFrom p 3 c a ++ Ar.valsFrom p 3 (c + a) b := fun a => by
    induction a with
    | zero => intro b c; simp [Ar.valsFrom]
    | succ a ih => intro b c; rw [show a + 1 + b = (a + b) + 1 by omega]; simp only [Ar.valsFrom, List.cons_append]; rw [ih b (c + 1), show c + 1 + a = c + (a + 1) by omega]
  have := h k (v - k) 0
  rw [show k + (v - k) = v by omega, Nat.zero_add] at this
  unfold Ar.tellsOf
  rw [this, List.append_assoc]

set_option maxRecDepth 100000 in
set_option maxHeartbeats 4000000 in
theorem tells1_gives (n : Nat) (hn : 1 ≤ n) (p : Ar.Pl) (v bp bv : Nat) (hv64 : v ≤ 64) : Gives n 76 #[] #[.pointer (some ⟨bp, 0, none⟩), .pointer (some ⟨bv, 0, none⟩)] encMv (Ar.tellsOf p v) anyY (fun W => W.heap[bp]? = some (plO p) ∧ Boxed W bv 3 (.int .i64 (v : Int))) (fun _ => True) := by
  intro y J Jx W hy ⟨hb, hbv⟩ _ hJ hJx hY h0
  refine callsIn_of_wp Tryz.func76 rfl trivial ?_ rfl
  simp only [Tryz.ntmps76, List.size_toArray, List.length_cons, List.length_nil, Nat.reduceAdd, Nat.reduceSub, Array.replicate_succ, Array.replicate_zero, List.push_toArray, List.append_toArray, List.nil_append, List.cons_append]
  have HY := Lib.hid hY; clear hY
  have HJ := Lib.hid hJ; clear hJ
  have HJx := Lib.hid hJx; clear hJx
  have HM := Lib.hid (fun kind nn W => move_any p kind nn W)
  have hb0 := Lib.hid hb
  have hv0 := Lib.hid hbv
  obtain ⟨c0, c1, c2, c3, c4⟩ := plO_cells hb
  have cv := hbv.cell
  clear hb hbv
  unfold plV at *
  cases hp : p.jumps
  · have HE : Hid (Ar.escOf p = []) := by rw [Hid, Ar.escOf, if_neg (by rw [hp]; decide)]
    rw [hp] at c4
    have HP := Lib.hid hp; clear hp
    rcases hy with ⟨l, rfl⟩ | ⟨B, rfl⟩
    · gi_wp2
      refine ⟨trivial, ?_⟩
      gi_wp2
      refine ⟨fun _ h => (by cases h), ?_⟩
      gi_wp2
      have hj0 := Lib.hid h0
      clear h0
      gi_loopw [15] (fun i wr => ∃ (k : Nat), k ≤ v ∧ i = .int .i64 k ∧ Hid (J (Ar.escOf p ++ Ar.valsFrom p 3 0 k) wr) ∧ Hid (wr.heap[bp]? = some (plO p)) ∧ W.heap.size ≤ wr.heap.size) (fun i _ => v - (intOf i).toNat)
      case atStart => exact ⟨0, Nat.zero_le _, rfl, by rw [Hid, show Ar.valsFrom p 3 0 0 = [] from rfl, List.append_nil]; exact by rw [HE.out]; exact hj0.out, hb0.out, Nat.le_refl _⟩
      case round =>
        obtain ⟨k, hk, rfl, hjr, hbr, hsr⟩ := hrel
        clear c0 c1 c2 c3 c4
        by_cases hlt : k < v
        · have hd : decide ((k : Int) < (v : Int)) = true := decide_eq_true (by omega)
          have HS := Lib.hid (tells_split p v k hk)
          have hv := Lib.hid (Ar.valsFrom_cons p 3 k v hlt)
          obtain ⟨d0, d1, d2, d3, d4⟩ := plO_cells hbr.out
          rw [HP.out] at d4
          have hm2 := HM.out 3 k wr
          rw [HP.out] at hm2
          have HM2 := Lib.hid hm2; clear hm2
          gi_wp2_with (refine ⟨trivial, ?_⟩; gi_at_call 77; refine (callsIn_wide.2 HM2.out).mono ?_; rintro e w4 ⟨rfl, hB4⟩; have j4 := HJ.out _ _ _ (Ext.of_below hB4 hsr) hjr.out; obtain ⟨fn, tmps, assign, body, hy, hR⟩ := (HY.out _ (Ar.mvOf p 3 k) _ w4 (by rw [HS.out, hv.out]) (by have := hB4.size; omega) j4).yield; unfold encMv mvV Ar.mvOf at hy; unfold mvV Ar.mvOf; have HR := Lib.hid hR; clear hR)
          refine HR.out.mono ?_
          rintro e W5 (⟨rfl, hJ5, hK5⟩ | ⟨rfl, hJx5, hK5⟩)
          · have b5 := Lib.hid (hK5.same _ _ ((hB4.block _ (lt_of_heap hbr.out)).trans hbr.out) ⟨by decide, by decide⟩)
            have J5 := Lib.hid hJ5
            have s5 : W.heap.size ≤ W5.heap.size := Nat.le_trans hsr (Nat.le_trans hB4.size hK5.size)
            clear hJ5 hK5 hy HR hjr hbr j4 d0 d1 d2 d3 d4
            gi_wp2
            go_roundw
            case rel => exact ⟨k + 1, by omega, by go_num, by rw [Hid, vals_snoc, Nat.zero_add, ← List.append_assoc]; exact J5.out, b5.out, s5⟩
            case measure => simp [intOf]; omega
          · gi_wp2
            refine bodyPost_ret (results_none rfl _ _ _) rfl ?_
            exact ⟨⟨_, rfl⟩, .inr hJx5⟩
        · have hd : decide ((k : Int) < (v : Int)) = false := decide_eq_false (by omega)
          obtain rfl : k = v := by omega
          gi_wp2
          go_end0
          exact ⟨⟨_, rfl⟩, .inl hjr.out⟩
    · gi_wp2
      refine ⟨trivial, ?_⟩
      gi_wp2
      refine ⟨fun _ h => (by cases h), ?_⟩
      gi_wp2
      have hj0 := Lib.hid h0
      clear h0
      gi_loopw [15] (fun i wr => ∃ (k : Nat), k ≤ v ∧ i = .int .i64 k ∧ Hid (J (Ar.escOf p ++ Ar.valsFrom p 3 0 k) wr) ∧ Hid (wr.heap[bp]? = some (plO p)) ∧ W.heap.size ≤ wr.heap.size) (fun i _ => v - (intOf i).toNat)
      case atStart => exact ⟨0, Nat.zero_le _, rfl, by rw [Hid, show Ar.valsFrom p 3 0 0 = [] from rfl, List.append_nil]; exact by rw [HE.out]; exact hj0.out, hb0.out, Nat.le_refl _⟩
      case round =>
        obtain ⟨k, hk, rfl, hjr, hbr, hsr⟩ := hrel
        clear c0 c1 c2 c3 c4
        by_cases hlt : k < v
        · have hd : decide ((k : Int) < (v : Int)) = true := decide_eq_true (by omega)
          have HS := Lib.hid (tells_split p v k hk)
          have hv := Lib.hid (Ar.valsFrom_cons p 3 k v hlt)
          obtain ⟨d0, d1, d2, d3, d4⟩ := plO_cells hbr.out
          rw [HP.out] at d4
          have hm2 := HM.out 3 k wr
          rw [HP.out] at hm2
          have HM2 := Lib.hid hm2; clear hm2
          gi_wp2_with (refine ⟨trivial, ?_⟩; gi_at_call 77; refine (callsIn_wide.2 HM2.out).mono ?_; rintro e w4 ⟨rfl, hB4⟩; have j4 := HJ.out _ _ _ (Ext.of_below hB4 hsr) hjr.out; have hR := (HY.out _ (Ar.mvOf p 3 k) _ w4 (by rw [HS.out, hv.out]) (by have := hB4.size; omega) j4).grow; unfold encMv mvV Ar.mvOf at hR; unfold mvV Ar.mvOf; have HR := Lib.hid hR; clear hR)
          refine ⟨trivial, ?_⟩
          gi_at_call 78
          refine HR.out.mono ?_
          rintro e W5 (⟨rfl, hJ5, hK5⟩ | ⟨rfl, hJx5, hK5⟩)
          · have b5 := Lib.hid (hK5.same _ _ ((hB4.block _ (lt_of_heap hbr.out)).trans hbr.out) ⟨by decide, by decide⟩)
            have J5 := Lib.hid hJ5
            have s5 : W.heap.size ≤ W5.heap.size := Nat.le_trans hsr (Nat.le_trans hB4.size hK5.size)
            clear hJ5 hK5 HR hjr hbr j4 d0 d1 d2 d3 d4
            gi_wp2
            go_roundw
            case rel => exact ⟨k + 1, by omega, by go_num, by rw [Hid, vals_snoc, Nat.zero_add, ← List.append_assoc]; exact J5.out, b5.out, s5⟩
            case measure => simp [intOf]; omega
          · gi_wp2
            refine bodyPost_ret (results_none rfl _ _ _) rfl ?_
            exact ⟨⟨_, rfl⟩, .inr hJx5⟩
        · have hd : decide ((k : Int) < (v : Int)) = false := decide_eq_false (by omega)
          obtain rfl : k = v := by omega
          gi_wp2
          go_end0
          exact ⟨⟨_, rfl⟩, .inl hjr.out⟩
  · have HE : Hid (Ar.escOf p = [Ar.mvOf p 3 (-1)]) := by rw [Hid, Ar.escOf, if_pos hp]
    rw [hp] at c4
    have HP := Lib.hid hp; clear hp
    rcases hy with ⟨l, rfl⟩ | ⟨B, rfl⟩
    · have hm1 := HM.out 3 (-1) W
      rw [HP.out] at hm1
      have HM1 := Lib.hid hm1; clear hm1
      gi_wp2_with (refine ⟨trivial, ?_⟩; gi_at_call 77; refine (callsIn_wide.2 HM1.out).mono ?_; rintro e w2 ⟨rfl, hB2⟩; have j2 := HJ.out [] _ _ (Ext.of_below hB2 (Nat.le_refl _)) h0; obtain ⟨fn, tmps, assign, body, hy, hR⟩ := (HY.out [] (Ar.mvOf p 3 (-1)) (Ar.valsFrom p 3 0 v) w2 (by rw [Ar.tellsOf, HE.out]; rfl) hB2.size j2).yield; unfold encMv mvV Ar.mvOf at hy; unfold mvV Ar.mvOf; have HR := Lib.hid hR; clear hR)
      refine HR.out.mono ?_
      rintro e W3 (⟨rfl, hJ3, hK3⟩ | ⟨rfl, hJx3, hK3⟩)
      · have b3 := Lib.hid (hK3.same _ _ ((hB2.block _ (lt_of_heap hb0.out)).trans hb0.out) ⟨by decide, by decide⟩)
        have v3 := hK3.same _ _ ((hB2.block _ (lt_of_heap hv0.out)).trans hv0.out) ⟨by decide, by decide⟩
        have v3c := Boxed.cell v3
        have J3 := Lib.hid hJ3
        have s3 : W.heap.size ≤ W3.heap.size := Nat.le_trans hB2.size hK3.size
        clear hJ3 hK3 hy HR j2 h0 v3
        gi_wp2
        gi_loopw [15] (fun i wr => ∃ (k : Nat), k ≤ v ∧ i = .int .i64 k ∧ Hid (J (Ar.escOf p ++ Ar.valsFrom p 3 0 k) wr) ∧ Hid (wr.heap[bp]? = some (plO p)) ∧ W.heap.size ≤ wr.heap.size) (fun i _ => v - (intOf i).toNat)
        case atStart => exact ⟨0, Nat.zero_le _, rfl, by rw [Hid, show Ar.valsFrom p 3 0 0 = [] from rfl, List.append_nil]; exact by rw [HE.out]; exact J3.out, b3.out, s3⟩
        case round =>
          obtain ⟨k, hk, rfl, hjr, hbr, hsr⟩ := hrel
          clear c0 c1 c2 c3 c4
          by_cases hlt : k < v
          · have hd : decide ((k : Int) < (v : Int)) = true := decide_eq_true (by omega)
            have HS := Lib.hid (tells_split p v k hk)
            have hv := Lib.hid (Ar.valsFrom_cons p 3 k v hlt)
            obtain ⟨d0, d1, d2, d3, d4⟩ := plO_cells hbr.out
            rw [HP.out] at d4
            have hm2 := HM.out 3 k wr
            rw [HP.out] at hm2
            have HM2 := Lib.hid hm2; clear hm2
            gi_wp2_with (refine ⟨trivial, ?_⟩; gi_at_call 77; refine (callsIn_wide.2 HM2.out).mono ?_; rintro e w4 ⟨rfl, hB4⟩; have j4 := HJ.out _ _ _ (Ext.of_below hB4 hsr) hjr.out; obtain ⟨fn, tmps, assign, body, hy, hR⟩ := (HY.out _ (Ar.mvOf p 3 k) _ w4 (by rw [HS.out, hv.out]) (by have := hB4.size; omega) j4).yield; unfold encMv mvV Ar.mvOf at hy; unfold mvV Ar.mvOf; have HR := Lib.hid hR; clear hR)
            refine HR.out.mono ?_
            rintro e W5 (⟨rfl, hJ5, hK5⟩ | ⟨rfl, hJx5, hK5⟩)
            · have b5 := Lib.hid (hK5.same _ _ ((hB4.block _ (lt_of_heap hbr.out)).trans hbr.out) ⟨by decide, by decide⟩)
              have J5 := Lib.hid hJ5
              have s5 : W.heap.size ≤ W5.heap.size := Nat.le_trans hsr (Nat.le_trans hB4.size hK5.size)
              clear hJ5 hK5 hy HR hjr hbr j4 d0 d1 d2 d3 d4
              gi_wp2
              go_roundw
              case rel => exact ⟨k + 1, by omega, by go_num, by rw [Hid, vals_snoc, Nat.zero_add, ← List.append_assoc]; exact J5.out, b5.out, s5⟩
              case measure => simp [intOf]; omega
            · gi_wp2
              refine bodyPost_ret (results_none rfl _ _ _) rfl ?_
              exact ⟨⟨_, rfl⟩, .inr hJx5⟩
          · have hd : decide ((k : Int) < (v : Int)) = false := decide_eq_false (by omega)
            obtain rfl : k = v := by omega
            gi_wp2
            go_end0
            exact ⟨⟨_, rfl⟩, .inl hjr.out⟩
      · gi_wp2
        refine bodyPost_ret (results_none rfl _ _ _) rfl ?_
        exact ⟨⟨_, rfl⟩, .inr hJx3⟩
    · have hm1 := HM.out 3 (-1) W
      rw [HP.out] at hm1
      have HM1 := Lib.hid hm1; clear hm1
      gi_wp2_with (refine ⟨trivial, ?_⟩; gi_at_call 77; refine (callsIn_wide.2 HM1.out).mono ?_; rintro e w2 ⟨rfl, hB2⟩; have j2 := HJ.out [] _ _ (Ext.of_below hB2 (Nat.le_refl _)) h0; have hR := (HY.out [] (Ar.mvOf p 3 (-1)) (Ar.valsFrom p 3 0 v) w2 (by rw [Ar.tellsOf, HE.out]; rfl) hB2.size j2).grow; unfold encMv mvV Ar.mvOf at hR; unfold mvV Ar.mvOf; have HR := Lib.hid hR; clear hR)
      refine ⟨trivial, ?_⟩
      gi_at_call 78
      refine HR.out.mono ?_
      rintro e W3 (⟨rfl, hJ3, hK3⟩ | ⟨rfl, hJx3, hK3⟩)
      · have b3 := Lib.hid (hK3.same _ _ ((hB2.block _ (lt_of_heap hb0.out)).trans hb0.out) ⟨by decide, by decide⟩)
        have v3 := hK3.same _ _ ((hB2.block _ (lt_of_heap hv0.out)).trans hv0.out) ⟨by decide, by decide⟩
        have v3c := Boxed.cell v3
        have J3 := Lib.hid hJ3
        have s3 : W.heap.size ≤ W3.heap.size := Nat.le_trans hB2.size hK3.size
        clear hJ3 hK3 HR j2 h0 v3
        gi_wp2
        gi_loopw [15] (fun i wr => ∃ (k : Nat), k ≤ v ∧ i = .int .i64 k ∧ Hid (J (Ar.escOf p ++ Ar.valsFrom p 3 0 k) wr) ∧ Hid (wr.heap[bp]? = some (plO p)) ∧ W.heap.size ≤ wr.heap.size) (fun i _ => v - (intOf i).toNat)
        case atStart => exact ⟨0, Nat.zero_le _, rfl, by rw [Hid, show Ar.valsFrom p 3 0 0 = [] from rfl, List.append_nil]; exact by rw [HE.out]; exact J3.out, b3.out, s3⟩
        case round =>
          obtain ⟨k, hk, rfl, hjr, hbr, hsr⟩ := hrel
          clear c0 c1 c2 c3 c4
          by_cases hlt : k < v
          · have hd : decide ((k : Int) < (v : Int)) = true := decide_eq_true (by omega)
            have HS := Lib.hid (tells_split p v k hk)
            have hv := Lib.hid (Ar.valsFrom_cons p 3 k v hlt)
            obtain ⟨d0, d1, d2, d3, d4⟩ := plO_cells hbr.out
            rw [HP.out] at d4
            have hm2 := HM.out 3 k wr
            rw [HP.out] at hm2
            have HM2 := Lib.hid hm2; clear hm2
            gi_wp2_with (refine ⟨trivial, ?_⟩; gi_at_call 77; refine (callsIn_wide.2 HM2.out).mono ?_; rintro e w4 ⟨rfl, hB4⟩; have j4 := HJ.out _ _ _ (Ext.of_below hB4 hsr) hjr.out; have hR := (HY.out _ (Ar.mvOf p 3 k) _ w4 (by rw [HS.out, hv.out]) (by have := hB4.size; omega) j4).grow; unfold encMv mvV Ar.mvOf at hR; unfold mvV Ar.mvOf; have HR := Lib.hid hR; clear hR)
            refine ⟨trivial, ?_⟩
            gi_at_call 78
            refine HR.out.mono ?_
            rintro e W5 (⟨rfl, hJ5, hK5⟩ | ⟨rfl, hJx5, hK5⟩)
            · have b5 := Lib.hid (hK5.same _ _ ((hB4.block _ (lt_of_heap hbr.out)).trans hbr.out) ⟨by decide, by decide⟩)
              have J5 := Lib.hid hJ5
              have s5 : W.heap.size ≤ W5.heap.size := Nat.le_trans hsr (Nat.le_trans hB4.size hK5.size)
              clear hJ5 hK5 HR hjr hbr j4 d0 d1 d2 d3 d4
              gi_wp2
              go_roundw
              case rel => exact ⟨k + 1, by omega, by go_num, by rw [Hid, vals_snoc, Nat.zero_add, ← List.append_assoc]; exact J5.out, b5.out, s5⟩
              case measure => simp [intOf]; omega
            · gi_wp2
              refine bodyPost_ret (results_none rfl _ _ _) rfl ?_
              exact ⟨⟨_, rfl⟩, .inr hJx5⟩
          · have hd : decide ((k : Int) < (v : Int)) = false := decide_eq_false (by omega)
            obtain rfl : k = v := by omega
            gi_wp2
            go_end0
            exact ⟨⟨_, rfl⟩, .inl hjr.out⟩
      · gi_wp2
        refine bodyPost_ret (results_none rfl _ _ _) rfl ?_
        exact ⟨⟨_, rfl⟩, .inr hJx3⟩
end Go.Proofs.YtepdlghobopdbaaGreatDoor
