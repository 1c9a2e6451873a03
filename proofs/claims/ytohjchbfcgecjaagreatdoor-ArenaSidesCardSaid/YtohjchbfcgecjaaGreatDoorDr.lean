/-
  WALKS: the reference's list of all moves.
-/
import Derived.Test.YtohjchbfcgecjaaGreatDoorDp
import Derived.Test.YtohjchbfcgecjaaGreatDoorPc
namespace Go.Proofs.YtohjchbfcgecjaaGreatDoor
open Go.RowKit Go.Shelf

/-- The first block of a call: an arena. -/
structure OA (w : World) (a : Ar.Are) (A : Option Addr) (c : Nat) (W : World) : Prop where
  below : Below w.heap.size w W
  arg : W.heap[w.heap.size]? = some (.cells #[.slice A a.ids.length c, .bool a.root.cell, .int .i64 a.root.n, .bool a.jumps] 26 (0, 0))
theorem OA.next {w : World} {a : Ar.Are} {A : Option Addr} {c : Nat} {W W' : World} (h : OA w a A c W) (hB : Below W.heap.size W W') : OA w a A c W' :=
  ⟨h.below.trans (hB.mono h.below.size), (hB.block _ (lt_of_heap h.arg)).trans h.arg⟩
theorem OA.nextD {w : World} {a : Ar.Are} {A : Option Addr} {c : Nat} {W W' : World} (h : OA w a A c W) (hB : Below W.drew.heap.size W.drew W') : OA w a A c W' :=
  ⟨h.below.drew.trans (hB.mono h.below.size), (hB.block _ (lt_of_heap h.arg)).trans h.arg⟩
theorem OA.first (w : World) (a : Ar.Are) (A : Option Addr) (c : Nat) : OA w a A c (w.alloc (.cells #[.slice A a.ids.length c, .bool a.root.cell, .int .i64 a.root.n, .bool a.jumps] 26 (0, 0))) :=
  ⟨(Below.refl _ _).alloc (Nat.le_refl _) _, World.alloc_heap_new _ _⟩
theorem OA.grown {w : World} {a : Ar.Are} {A : Option Addr} {c : Nat} {W W' : World} {e : TypeId} {size n : Nat} {v : Value} {xs : List Value} (h : OA w a A c W) (hown : W.ownsRow (w.heap.size + 1) e size v n xs) (hg : W.grownBy W' v.ownBlock) : OA w a A c W' :=
  ⟨h.below.grown hg h.below.size (fun j e => by have := own_low hown e; omega), grown_far hown hg h.arg (by omega)⟩

namespace Ar
theorem cell_len {a : Are} (h : Right a) (id arg : Int) : (cellAt a id arg).length ≤ 130 := by
  obtain ⟨h1, h2⟩ := places_short h id arg 1
  unfold cellAt
  rw [List.length_append]; omega
theorem args_len {a : Are} (h : Right a) (id : Int) : ∀ n, (argsTo a id n).length ≤ 130 * n
  | 0 => Nat.zero_le _
  | n + 1 => by
    rw [argsTo, List.length_append]
    have := cell_len h id n
    have := args_len h id n
    omega
theorem ids_len {a : Are} (h : Right a) : ∀ n, (idsTo a n).length ≤ 780 * n
  | 0 => Nat.zero_le _
  | n + 1 => by
    rw [idsTo, List.length_append]
    have := args_len h n 6
    have := ids_len h n
    omega
end Ar

theorem own_apart {W W3 : World} {v u : Value} {e e' : TypeId} {s s' n m base : Nat} {xs ys : List Value} (h : W.ownsRow W3.heap.size e s v n xs) (k : W3.ownsRow base e' s' u m ys) : v.ownBlock = none ∨ v.ownBlock ≠ u.ownBlock := by
  cases hv : v.ownBlock with
  | none => exact .inl rfl
  | some b =>
    refine .inr (fun e => ?_)
    have h1 := own_low h hv
    have h2 := (k.lt b e.symm).2
    omega
set_option maxRecDepth 100000 in
set_option maxHeartbeats 8000000 in
theorem refAll_any (a : Ar.Are) (A : Option Addr) (c : Nat) (P : Nat → Option Addr × Nat) (w : World) (hA : ArM w A P a) (hr : Ar.Right a) :
    Calls Tryz.prog 63 #[.agg #[.slice A a.ids.length c, .bool a.root.cell, .int .i64 a.root.n, .bool a.jumps]] w fun e w' => ∃ v, e = .returned v ∧ Made w (Ar.allOf a) v w' := by
  obtain ⟨i0, hi, hz0, hz1, hz2⟩ := info_parts infoMv
  have HF := Lib.hid (OA.first w a A c)
  obtain ⟨e0, e1, e2, e3, -, -, -, -⟩ := cells4 HF.out.arg
  have HQ := Lib.hid (fun (id arg : Int) W (hB : Below w.heap.size w W) => refQuestions_any a A c P id arg W (hA.below hB) (fun b hb => (Ar.placeOf_right hr hb).2))
  have HTD := Lib.hid (fun (id arg : Int) W (hB : Below w.heap.size w W) => refTold_any a A c P id arg 1 W (hA.below hB) (fun b hb => (Ar.placeOf_right hr hb).2))
  have HSH := Lib.hid (fun (id arg : Int) => Ar.places_short hr id arg 1)
  have HIL := Lib.hid (fun n => Ar.ids_len hr n)
  have HAL := Lib.hid (fun id n => Ar.args_len hr id n)
  have hids := hr.ids
  have hall := Ar.all_ids hr
  rw [← hall]
  clear hA hr hall
  go_enter Tryz.func63, Tryz.ntmps63
  go_wp2
  clear e0 e1 e2 e3
  go_loopw [3, 4] (fun v i wr => ∃ (n : Nat), n ≤ a.ids.length + 1 ∧ i = .int .i64 n ∧ Hid (wr.ownsRow (w.heap.size + 1) 40 4 v (Ar.idsTo a n).length (mvsCells (Ar.idsTo a n))) ∧ Hid (OA w a A c wr)) (fun _ i _ => a.ids.length + 1 - (intOf i).toNat)
  case atStart => exact ⟨0, Nat.zero_le _, rfl, World.ownsRow_nil _ _ _ _, HF.out⟩
  case round =>
    obtain ⟨n, hn, rfl, hrow, hF⟩ := hrel
    obtain ⟨ao, cap, hv⟩ := own_form hrow.out
    subst hv
    obtain ⟨e0, e1, e2, e3, -, -, -, -⟩ := cells4 hF.out.arg
    by_cases hlt : n ≤ a.ids.length
    · have hle : (n : Int) ≤ (a.ids.length : Int) := by omega
      have HI := Lib.hid (HIL.out n)
      have hsn : Ar.idsTo a (n + 1) = Ar.idsTo a n ++ Ar.argsTo a n 6 := rfl
      have HSN := Lib.hid hsn
      have hrow' : Hid (wr.ownsRow (w.heap.size + 1) 40 4 (.slice ao (Ar.idsTo a n).length cap) (Ar.idsTo a n ++ Ar.argsTo a n 0).length (mvsCells (Ar.idsTo a n ++ Ar.argsTo a n 0))) := by
        rw [Hid, show Ar.argsTo a n 0 = [] from rfl, List.append_nil]; exact hrow.out
      clear hsn hrow
      generalize Ar.idsTo a n = IL at *
      go_wp2
      clear e0 e1 e2 e3
      go_loopw [3, 5] (fun v i wr => ∃ (j : Nat), j ≤ 6 ∧ i = .int .i64 j ∧ Hid (wr.ownsRow (w.heap.size + 1) 40 4 v (IL ++ Ar.argsTo a n j).length (mvsCells (IL ++ Ar.argsTo a n j))) ∧ Hid (OA w a A c wr)) (fun _ i _ => 6 - (intOf i).toNat)
      case atStart => exact ⟨0, Nat.zero_le _, rfl, hrow'.out, hF.out⟩
      case round =>
        obtain ⟨j, hj, rfl, hrow, hF⟩ := hrel
        obtain ⟨ao, cap, hv⟩ := own_form hrow.out
        subst hv
        obtain ⟨e0, e1, e2, e3, -, -, -, -⟩ := cells4 hF.out.arg
        by_cases hl5 : j ≤ 5
        · have hle5 : (j : Int) ≤ 5 := by omega
          have HQ1 := Lib.hid (HQ.out (n : Int) (j : Int))
          have HT1 := Lib.hid (HTD.out (n : Int) (j : Int))
          obtain ⟨s1, s2⟩ := HSH.out (n : Int) (j : Int)
          have hal := HAL.out (n : Int) j
          have hil := HI.out
          have hsj : IL ++ Ar.argsTo a n (j + 1) = (IL ++ Ar.argsTo a n j) ++ Ar.questionsAt a n j ++ Ar.toldAt a n j 1 := by
            rw [Ar.argsTo, Ar.cellAt, List.append_assoc, List.append_assoc]
          have HSJ := Lib.hid hsj
          have hbl : (IL ++ Ar.argsTo a n j).length ≤ 9000 := by rw [List.length_append]; omega
          clear hsj hal hil
          generalize IL ++ Ar.argsTo a n j = BL at *
          generalize Ar.questionsAt a n j = QL at *
          generalize Ar.toldAt a n j 1 = TL at *
          go_wp2
          go_region_law (first
            | (refine step_append_any _ (by rfl) _ _ _ (by rfl) (w.heap.size + 1) 40 i0 _ 4 32 Tryz.underlying32 hi hz0 hz1 hz2 rfl (by omega) (.slice A9 (BL.length + QL.length) c9) (BL.length + QL.length) (mvsCells BL ++ mvsCells QL) (by rfl) rX.out ao4 TL.length cap4 (BL.length + QL.length + TL.length) rfl (mvsCells TL) (by rfl) hn4 (mvsCells_len _) (mvsCells_at hm4) (mvsCells_one _) (by unfold maxLen; omega) (by omega) (lt_of_heap fX.out.arg) ?_; intro A10 c10 w10 hown10 hgrow10; have f10 := Lib.hid (fX.out.grown rX.out hgrow10))
            | (refine step_append_any _ (by rfl) _ _ _ (by rfl) (w.heap.size + 1) 40 i0 _ 4 32 Tryz.underlying32 hi hz0 hz1 hz2 rfl (by omega) (.slice A9 (BL.length + QL.length) c9) (BL.length + QL.length) (mvsCells BL ++ mvsCells QL) (by rfl) hown9 ao4 TL.length cap4 (BL.length + QL.length + TL.length) rfl (mvsCells TL) (by rfl) hn4 (mvsCells_len _) (mvsCells_at (mvs_of_own mY)) (mvsCells_one _) (by unfold maxLen; omega) (by omega) (lt_of_heap fY.out.arg) ?_; intro A10 c10 w10 hown10 hgrow10; have f10 := Lib.hid (fY.out.grown hown9 hgrow10))
            | (refine step_append_any _ (by rfl) _ _ _ (by rfl) (w.heap.size + 1) 40 i0 _ 4 32 Tryz.underlying32 hi hz0 hz1 hz2 rfl (by omega) (.slice ao BL.length cap) BL.length (mvsCells BL) (by rfl) rT.out ao3 QL.length cap3 (BL.length + QL.length) rfl (mvsCells QL) (by rfl) hn3 (mvsCells_len _) (mvsCells_at (hm3.next hB4)) (mvsCells_one _) (by unfold maxLen; omega) (by omega) (lt_of_heap fT.out.arg) ?_; intro A9 c9 w9 hown9 hgrow9; have fY := Lib.hid (fT.out.grown rT.out hgrow9); have mY := World.ownsRow.kept ho4 hgrow9 (own_apart ho4 r3.out))
            | (refine step_append_any _ (by rfl) _ _ _ (by rfl) (w.heap.size + 1) 40 i0 _ 4 32 Tryz.underlying32 hi hz0 hz1 hz2 rfl (by omega) (.slice ao BL.length cap) BL.length (mvsCells BL) (by rfl) r3.out ao3 QL.length cap3 (BL.length + QL.length) rfl (mvsCells QL) (by rfl) hn3 (mvsCells_len _) (mvsCells_at hm3) (mvsCells_one _) (by unfold maxLen; omega) (by omega) (lt_of_heap f3.out.arg) ?_; intro A9 c9 w9 hown9 hgrow9; have f9 := Lib.hid (f3.out.grown r3.out hgrow9); obtain ⟨y0, y1, y2, y3, -, -, -, -⟩ := cells4 f9.out.arg)
            | (go_simp; go_at_call 82; have _t := hgrow9; refine (HT1.out w9 f9.out.below).mono ?_; rintro e w4 ⟨v4, rfl, ho4, hB4⟩; obtain ⟨ao4, cap4, hv4⟩ := own_form ho4; subst hv4; have hm4 := mvs_of_own ho4; have hn4 := own_nilc ho4 rfl; have rX := Lib.hid (own_ext hown9 (Ext.of_below hB4 (Nat.le_refl _))); have fX := Lib.hid (f9.out.next hB4))
            | (go_simp; go_at_call 82; refine (HT1.out w3 f3.out.below).mono ?_; rintro e w4 ⟨v4, rfl, ho4, hB4⟩; obtain ⟨ao4, cap4, hv4⟩ := own_form ho4; subst hv4; have hn4 := own_nilc ho4 rfl; have rT := Lib.hid (own_ext r3.out (Ext.of_below hB4 (Nat.le_refl _))); have fT := Lib.hid (f3.out.next hB4))
            | (go_simp; go_at_call 84; refine (HQ1.out _ hF.out.below.drew).mono ?_; rintro e w3 ⟨v3, rfl, ho3, hB3⟩; obtain ⟨ao3, cap3, hv3⟩ := own_form ho3; subst hv3; have hm3 := mvs_of_own ho3; have hn3 := own_nilc ho3 rfl; have r3 := Lib.hid (own_ext (A := wr.drew) hrow.out (Ext.of_below hB3 (Nat.le_refl _))); have f3 := Lib.hid (hF.out.nextD hB3); obtain ⟨x0, x1, x2, x3, -, -, -, -⟩ := cells4 f3.out.arg))
          all_goals go_wp2
          all_goals
            go_roundw
            case rel =>
              refine ⟨j + 1, by omega, by go_num, ?_, f10.out⟩
              rw [Hid, HSJ.out, List.length_append, List.length_append]
              unfold mvsCells at hown10 ⊢
              rw [List.flatMap_append, List.flatMap_append]
              exact hown10
            case measure => simp [intOf]; omega
        · obtain rfl : j = 6 := by omega
          have hle5 : ¬ ((6 : Int) ≤ 5) := by decide
          go_wp2
          go_roundw
          case rel =>
            refine ⟨n + 1, by omega, by go_num, ?_, hF.out⟩
            rw [Hid, HSN.out]
            exact hrow.out
          case measure => simp [intOf]; omega
    · obtain rfl : n = a.ids.length + 1 := by omega
      have hle : ¬ (((a.ids.length + 1 : Nat) : Int) ≤ (a.ids.length : Int)) := by omega
      go_wp2
      go_ret
      exact ⟨_, rfl, own_base hrow.out (Nat.le_succ _), hF.out.below⟩
end Go.Proofs.YtohjchbfcgecjaaGreatDoor
