/-
  WALKS: the reference's list of all moves.
  WALKS: small arenas, their moves, whose each is.
-/
import Derived.Test.YtbfpgjnagpcbeaaGreatDoorDp
import Derived.Test.YtbfpgjnagpcbeaaGreatDoorPc
import Derived.Test.YtbfpgjnagpcbeaaGreatDoorDq
namespace Go.Proofs.YtbfpgjnagpcbeaaGreatDoor
open Go.RowKit Go.Shelf

/-- The first block of a call: an arena. -/
structure OA (w : World) (a : Ar.Are) (A : Option Addr) (c : Nat) (W : World) : Prop where
  below : Below w.heap.size w W
  arg : W.heap[w.heap.size]? = some (.cells #[.slice A a.ids.length c, .bool a.root.cell, .int .i64 a.root.n, .bool a.jumps] 26 (0, 0))
theorem OA.next {w : World} {a : Ar.Are} {A : Option Addr} {c : Nat} {W W' : World} (h : OA w a A c W) (hB : Below W.heap.size W W') : OA w a A c W' :=
  ⟨h.below.trans (hB.mono h.below.size), (hB.block _ (lt_of_heap h.arg)).trans h.arg⟩
theorem OA.nextD {w : World} {a : Ar.Are} {A : Option Addr} {c : Nat} {W W' : World} (h : OA w a A c W) (hB : Below W.drew.heap.size W.drew W') : OA w a A c W' :=
  ⟨h.below.drew.trans (hB.mono h.below.size), (hB.block _ (lt_of_heap h.arg)).trans h.arg⟩
theorem OA.first (w : World) (a : Ar.Are) (A : Option Addr) (c : Nat) : OA w a A c (w.alloc (.cells #[.slice A a.ids.length c, .bool a.root.cell, .int .i64 a.root.n, .bool a.jumps] 26 (0, 0))) :=
  ⟨(Below.refl _ _).alloc (Nat.le_refl _) _, World.alloc_heap_new _ _⟩
theorem OA.grown {w : World} {a : Ar.Are} {A : Option Addr} {c : Nat} {W W' : World} {e : TypeId} {size n : Nat} {v : Value} {xs : List Value} (h : OA w a A c W) (hown : W.ownsRow (w.heap.size + 1) e size v n xs) (hg : W.grownBy W' v.ownBlock) : OA w a A c W' :=
  ⟨h.below.grown hg h.below.size (fun j e => by have := own_low hown e; omega), grown_far hown hg h.arg (by omega)⟩

namespace Ar
theorem cell_len {a : Are} (h : Right a) (id arg : Int) : (cellAt a id arg).length ≤ 130 := by
  obtain ⟨h1, h2⟩ := places_short h id arg 1
  unfold cellAt
  rw [List.length_append]; omega
theorem args_len {a : Are} (h : Right a) (id : Int) : ∀ n, (argsTo a id n).length ≤ 130 * n
  | 0 => Nat.zero_le _
  | n + 1 => by
    rw [argsTo, List.length_append]
    have := cell_len h id n
    have := args_len h id n
    omega
theorem ids_len {a : Are} (h : Right a) : ∀ n, (idsTo a n).length ≤ 780 * n
  | 0 => Nat.zero_le _
  | n + 1 => by
    rw [idsTo, List.length_append]
    have := args_len h n 6
    have := ids_len h n
    omega
end Ar

theorem own_apart {W W3 : World} {v u : Value} {e e' : TypeId} {s s' n m base : Nat} {xs ys : List Value} (h : W.ownsRow W3.heap.size e s v n xs) (k : W3.ownsRow base e' s' u m ys) : v.ownBlock = none ∨ v.ownBlock ≠ u.ownBlock := by
  cases hv : v.ownBlock with
  | none => exact .inl rfl
  | some b =>
    refine .inr (fun e => ?_)
    have h1 := own_low h hv
    have h2 := (k.lt b e.symm).2
    omega
set_option maxRecDepth 100000 in
set_option maxHeartbeats 8000000 in
theorem refAll_any (a : Ar.Are) (A : Option Addr) (c : Nat) (P : Nat → Option Addr × Nat) (w : World) (hA : ArM w A P a) (hr : Ar.Right a) :
    Calls Tryz.prog 63 #[.agg #[.slice A a.ids.length c, .bool a.root.cell, .int .i64 a.root.n, .bool a.jumps]] w fun e w' => ∃ v, e = .returned v ∧ Made w (Ar.allOf a) v w' := by
  obtain ⟨i0, hi, hz0, hz1, hz2⟩ := info_parts infoMv
  have HF := Lib.hid (OA.first w a A c)
  obtain ⟨e0, e1, e2, e3, -, -, -, -⟩ := cells4 HF.out.arg
  have HQ := Lib.hid (fun (id arg : Int) W (hB : Below w.heap.size w W) => refQuestions_any a A c P id arg W (hA.below hB) (fun b hb => (Ar.placeOf_right hr hb).2))
  have HTD := Lib.hid (fun (id arg : Int) W (hB : Below w.heap.size w W) => refTold_any a A c P id arg 1 W (hA.below hB) (fun b hb => (Ar.placeOf_right hr hb).2))
  have HSH := Lib.hid (fun (id arg : Int) => Ar.places_short hr id arg 1)
  have HIL := Lib.hid (fun n => Ar.ids_len hr n)
  have HAL := Lib.hid (fun id n => Ar.args_len hr id n)
  have hids := hr.ids
  have hall := Ar.all_ids hr
  rw [← hall]
  clear hA hr hall
  go_enter Tryz.func63, Tryz.ntmps63
  go_wp2
  clear e0 e1 e2 e3
  go_loopw [3, 4] (fun v i wr => ∃ (n : Nat), n ≤ a.ids.length + 1 ∧ i = .int .i64 n ∧ Hid (wr.ownsRow (w.heap.size + 1) 40 4 v (Ar.idsTo a n).length (mvsCells (Ar.idsTo a n))) ∧ Hid (OA w a A c wr)) (fun _ i _ => a.ids.length + 1 - (intOf i).toNat)
  case atStart => exact ⟨0, Nat.zero_le _, rfl, World.ownsRow_nil _ _ _ _, HF.out⟩
  case round =>
    obtain ⟨n, hn, rfl, hrow, hF⟩ := hrel
    obtain ⟨ao, cap, hv⟩ := own_form hrow.out
    subst hv
    obtain ⟨e0, e1, e2, e3, -, -, -, -⟩ := cells4 hF.out.arg
    by_cases hlt : n ≤ a.ids.length
    · have hle : (n : Int) ≤ (a.ids.length : Int) := by omega
      have HI := Lib.hid (HIL.out n)
      have hsn : Ar.idsTo a (n + 1) = Ar.idsTo a n ++ Ar.argsTo a n 6 := rfl
      have HSN := Lib.hid hsn
      have hrow' : Hid (wr.ownsRow (w.heap.size + 1) 40 4 (.slice ao (Ar.idsTo a n).length cap) (Ar.idsTo a n ++ Ar.argsTo a n 0).length (mvsCells (Ar.idsTo a n ++ Ar.argsTo a n 0))) := by
        rw [Hid, show Ar.argsTo a n 0 = [] from rfl, List.append_nil]; exact hrow.out
      clear hsn hrow
      generalize Ar.idsTo a n = IL at *
      go_wp2
      clear e0 e1 e2 e3
      go_loopw [3, 5] (fun v i wr => ∃ (j : Nat), j ≤ 6 ∧ i = .int .i64 j ∧ Hid (wr.ownsRow (w.heap.size + 1) 40 4 v (IL ++ Ar.argsTo a n j).length (mvsCells (IL ++ Ar.argsTo a n j))) ∧ Hid (OA w a A c wr)) (fun _ i _ => 6 - (intOf i).toNat)
      case atStart => exact ⟨0, Nat.zero_le _, rfl, hrow'.out, hF.out⟩
      case round =>
        obtain ⟨j, hj, rfl, hrow, hF⟩ := hrel
        obtain ⟨ao, cap, hv⟩ := own_form hrow.out
        subst hv
        obtain ⟨e0, e1, e2, e3, -, -, -, -⟩ := cells4 hF.out.arg
        by_cases hl5 : j ≤ 5
        · have hle5 : (j : Int) ≤ 5 := by omega
          have HQ1 := Lib.hid (HQ.out (n : Int) (j : Int))
          have HT1 := Lib.hid (HTD.out (n : Int) (j : Int))
          obtain ⟨s1, s2⟩ := HSH.out (n : Int) (j : Int)
          have hal := HAL.out (n : Int) j
          have hil := HI.out
          have hsj : IL ++ Ar.argsTo a n (j + 1) = (IL ++ Ar.argsTo a n j) ++ Ar.questionsAt a n j ++ Ar.toldAt a n j 1 := by
            rw [Ar.argsTo, Ar.cellAt, List.append_assoc, List.append_assoc]
          have HSJ := Lib.hid hsj
          have hbl : (IL ++ Ar.argsTo a n j).length ≤ 9000 := by rw [List.length_append]; omega
          clear hsj hal hil
          generalize IL ++ Ar.argsTo a n j = BL at *
          generalize Ar.questionsAt a n j = QL at *
          generalize Ar.toldAt a n j 1 = TL at *
          go_wp2
          go_region_law (first
            | (refine step_append_any _ (by rfl) _ _ _ (by rfl) (w.heap.size + 1) 40 i0 _ 4 32 Tryz.underlying32 hi hz0 hz1 hz2 rfl (by omega) (.slice A9 (BL.length + QL.length) c9) (BL.length + QL.length) (mvsCells BL ++ mvsCells QL) (by rfl) rX.out ao4 TL.length cap4 (BL.length + QL.length + TL.length) rfl (mvsCells TL) (by rfl) hn4 (mvsCells_len _) (mvsCells_at hm4) (mvsCells_one _) (by unfold maxLen; omega) (by omega) (lt_of_heap fX.out.arg) ?_; intro A10 c10 w10 hown10 hgrow10; have f10 := Lib.hid (fX.out.grown rX.out hgrow10))
            | (refine step_append_any _ (by rfl) _ _ _ (by rfl) (w.heap.size + 1) 40 i0 _ 4 32 Tryz.underlying32 hi hz0 hz1 hz2 rfl (by omega) (.slice A9 (BL.length + QL.length) c9) (BL.length + QL.length) (mvsCells BL ++ mvsCells QL) (by rfl) hown9 ao4 TL.length cap4 (BL.length + QL.length + TL.length) rfl (mvsCells TL) (by rfl) hn4 (mvsCells_len _) (mvsCells_at (mvs_of_own mY)) (mvsCells_one _) (by unfold maxLen; omega) (by omega) (lt_of_heap fY.out.arg) ?_; intro A10 c10 w10 hown10 hgrow10; have f10 := Lib.hid (fY.out.grown hown9 hgrow10))
            | (refine step_append_any _ (by rfl) _ _ _ (by rfl) (w.heap.size + 1) 40 i0 _ 4 32 Tryz.underlying32 hi hz0 hz1 hz2 rfl (by omega) (.slice ao BL.length cap) BL.length (mvsCells BL) (by rfl) rT.out ao3 QL.length cap3 (BL.length + QL.length) rfl (mvsCells QL) (by rfl) hn3 (mvsCells_len _) (mvsCells_at (hm3.next hB4)) (mvsCells_one _) (by unfold maxLen; omega) (by omega) (lt_of_heap fT.out.arg) ?_; intro A9 c9 w9 hown9 hgrow9; have fY := Lib.hid (fT.out.grown rT.out hgrow9); have mY := World.ownsRow.kept ho4 hgrow9 (own_apart ho4 r3.out))
            | (refine step_append_any _ (by rfl) _ _ _ (by rfl) (w.heap.size + 1) 40 i0 _ 4 32 Tryz.underlying32 hi hz0 hz1 hz2 rfl (by omega) (.slice ao BL.length cap) BL.length (mvsCells BL) (by rfl) r3.out ao3 QL.length cap3 (BL.length + QL.length) rfl (mvsCells QL) (by rfl) hn3 (mvsCells_len _) (mvsCells_at hm3) (mvsCells_one _) (by unfold maxLen; omega) (by omega) (lt_of_heap f3.out.arg) ?_; intro A9 c9 w9 hown9 hgrow9; have f9 := Lib.hid (f3.out.grown r3.out hgrow9); obtain ⟨y0, y1, y2, y3, -, -, -, -⟩ := cells4 f9.out.arg)
            | (go_simp; go_at_call 82; have _t := hgrow9; refine (HT1.out w9 f9.out.below).mono ?_; rintro e w4 ⟨v4, rfl, ho4, hB4⟩; obtain ⟨ao4, cap4, hv4⟩ := own_form ho4; subst hv4; have hm4 := mvs_of_own ho4; have hn4 := own_nilc ho4 rfl; have rX := Lib.hid (own_ext hown9 (Ext.of_below hB4 (Nat.le_refl _))); have fX := Lib.hid (f9.out.next hB4))
            | (go_simp; go_at_call 82; refine (HT1.out w3 f3.out.below).mono ?_; rintro e w4 ⟨v4, rfl, ho4, hB4⟩; obtain ⟨ao4, cap4, hv4⟩ := own_form ho4; subst hv4; have hn4 := own_nilc ho4 rfl; have rT := Lib.hid (own_ext r3.out (Ext.of_below hB4 (Nat.le_refl _))); have fT := Lib.hid (f3.out.next hB4))
            | (go_simp; go_at_call 84; refine (HQ1.out _ hF.out.below.drew).mono ?_; rintro e w3 ⟨v3, rfl, ho3, hB3⟩; obtain ⟨ao3, cap3, hv3⟩ := own_form ho3; subst hv3; have hm3 := mvs_of_own ho3; have hn3 := own_nilc ho3 rfl; have r3 := Lib.hid (own_ext (A := wr.drew) hrow.out (Ext.of_below hB3 (Nat.le_refl _))); have f3 := Lib.hid (hF.out.nextD hB3); obtain ⟨x0, x1, x2, x3, -, -, -, -⟩ := cells4 f3.out.arg))
          all_goals go_wp2
          all_goals
            go_roundw
            case rel =>
              refine ⟨j + 1, by omega, by go_num, ?_, f10.out⟩
              rw [Hid, HSJ.out, List.length_append, List.length_append]
              unfold mvsCells at hown10 ⊢
              rw [List.flatMap_append, List.flatMap_append]
              exact hown10
            case measure => simp [intOf]; omega
        · obtain rfl : j = 6 := by omega
          have hle5 : ¬ ((6 : Int) ≤ 5) := by decide
          go_wp2
          go_roundw
          case rel =>
            refine ⟨n + 1, by omega, by go_num, ?_, hF.out⟩
            rw [Hid, HSN.out]
            exact hrow.out
          case measure => simp [intOf]; omega
    · obtain rfl : n = a.ids.length + 1 := by omega
      have hle : ¬ (((a.ids.length + 1 : Nat) : Int) ≤ (a.ids.length : Int)) := by omega
      go_wp2
      go_ret
      exact ⟨_, rfl, own_base hrow.out (Nat.le_succ _), hF.out.below⟩
end Go.Proofs.YtbfpgjnagpcbeaaGreatDoor

namespace Go.Proofs.YtbfpgjnagpcbeaaGreatDoor
open Go.RowKit Go.MapKept Go.Shelf

namespace Ar
def smallOf (a : Are) : Bool := thinOf a && (decide (checkOf a = 0) && decide ((allOf a).length ≤ 300))
theorem small_parts {a : Are} (h : smallOf a = true) : thinOf a = true ∧ checkOf a = 0 ∧ (allOf a).length ≤ 300 := by
  unfold smallOf at h
  simp only [Bool.and_eq_true, decide_eq_true_eq] at h
  exact h
theorem in_arena {a : Are} (h : checkOf a = 0) {x : Mv} (hx : x ∈ cellAt a x.id x.arg) : findErr a x = 0 := by
  have hh : hasRef a x = true := by
    unfold hasRef
    rw [Bool.or_eq_true]
    unfold cellAt at hx
    rcases List.mem_append.1 hx with hx | hx
    · exact .inl (List.any_eq_true.2 ⟨x, hx, mvEq_self x⟩)
    · exact .inr (List.any_eq_true.2 ⟨x, hx, mvEq_self x⟩)
  rw [has_ref h, hh]; rfl
theorem other_bit (x : Mv) : otherRef x = (bit x != askOf x) := rfl
theorem ans_zero {a : Are} {m : Mv} (h : ansErr a m = 0) : findErr a m = 0 ∧ askOf m = true := by
  unfold ansErr at h
  by_cases hf : findErr a m = 0
  · rw [if_pos hf] at h
    refine ⟨hf, ?_⟩
    cases hk : askOf m
    · rw [hk] at h; cases h
    · rfl
  · rw [if_neg hf] at h
    exact absurd h hf
/-- What answers a move, and what stands below it, is in the arena, and of the other side. -/
theorem sides {a : Are} {m x : Mv} (hc : checkOf a = 0) (hx : x ∈ ansRef a m ++ undRef a m) : findErr a x = 0 ∧ otherRef x = !otherRef m := by
  have hr := right_of_check hc
  rcases List.mem_append.1 hx with hx | hx
  · unfold ansRef at hx
    by_cases h0 : ansErr a m = 0
    · rw [if_pos h0] at hx
      obtain ⟨h1, h2, h3, h4⟩ := told_sub hr hx
      refine ⟨in_arena hc h1, ?_⟩
      rw [other_bit, other_bit, (ans_zero h0).2]
      have e1 : askOf x = false := by unfold askOf; rw [h4]; rfl
      have e2 : bit x = bit m := by unfold bit; rw [h2, h3]
      rw [e1, e2]
      cases bit m <;> rfl
    · rw [if_neg h0] at hx; cases hx
  · unfold undRef at hx
    by_cases h0 : ansErr a m = 0
    · rw [if_pos h0] at hx
      obtain ⟨h1, h2, h3⟩ := below_of hx
      refine ⟨in_arena hc h3, ?_⟩
      rw [other_bit, other_bit, (ans_zero h0).2]
      have e1 : askOf x = true := by
        unfold askOf
        rcases h2 with h2 | h2
        · rw [h2]; rfl
        · rw [h2]; rfl
      rw [e1, h1]
      cases bit m <;> rfl
    · rw [if_neg h0] at hx; cases hx
theorem ans_two {a : Are} {m : Mv} (h : findErr a m = 0) : ansErr a m = 0 ∨ ansErr a m = 2 := by
  unfold ansErr
  rw [if_pos h]
  cases askOf m
  · exact .inr rfl
  · exact .inl rfl
theorem both_len {a : Are} {m : Mv} (hc : checkOf a = 0) : (ansRef a m).length ≤ 65 ∧ (undRef a m).length ≤ 520 := by
  have hr := right_of_check hc
  constructor
  · unfold ansRef
    split
    · exact (places_short hr m.id m.arg m.kind).2
    · exact Nat.zero_le _
  · unfold undRef
    split
    · unfold belowOf
      split
      · have h1 := belowArgs_len hr m.id (manyOf a m.id) 0
        have h2 : manyOf a m.id ≤ 5 := by
          unfold manyOf
          split
          · rename_i t ht
            exact hr.long t (List.mem_of_getElem? ht)
          · exact Nat.zero_le _
        omega
      · have h1 := belowIds_len hr a.ids.length 0
        have := hr.ids
        omega
    · exact Nat.zero_le _
theorem ans_some {a : Are} {m : Mv} (h : ansErr a m = 0) : 0 < (ansRef a m).length := by
  obtain ⟨h1, _⟩ := ans_zero h
  obtain ⟨hc, _, b, hb⟩ := findErr_zero h1
  obtain ⟨hb1, _⟩ := placeOf_right (right_of_check hc) hb
  unfold ansRef
  rw [if_pos h]
  unfold toldAt
  rw [hb]
  simp only
  unfold tellsOf
  rw [List.length_append, valsFrom_length]
  have : 0 < (if m.kind = 1 then b.n.toNat else min 1 b.n.toNat) := by split <;> omega
  omega
theorem ans_none {a : Are} {m : Mv} (h : ansErr a m ≠ 0) : ansRef a m = [] ∧ undRef a m = [] := ⟨by unfold ansRef; rw [if_neg h], by unfold undRef; rw [if_neg h]⟩
end Ar

theorem refAllL {a : Ar.Are} {A : Option Addr} {c : Nat} {P : Nat → Option Addr × Nat} {W : World} (h : ArM W A P a) (hr : Ar.Right a) : Calls Tryz.prog 63 #[.agg #[.slice A a.ids.length c, .bool a.root.cell, .int .i64 a.root.n, .bool a.jumps]] W fun e w' => ∃ B d, e = .returned (.slice B (Ar.allOf a).length d) ∧ Mvs w' w'.heap.size B (Ar.allOf a) ∧ Below W.heap.size W w' :=
  (refAll_any a A c P W h hr).mono fun e w' ⟨v, h1, h2, h3⟩ => by
    obtain ⟨B, d, rfl, hm⟩ := lies_of_own h2
    exact ⟨B, d, h1, hm, h3⟩
set_option maxRecDepth 100000 in
set_option maxHeartbeats 4000000 in
theorem small_any (a : Ar.Are) (A : Option Addr) (c : Nat) (P : Nat → Option Addr × Nat) (w : World) (hM : AreM w A c P a) :
    Calls Tryz.prog 50 #[.agg #[.slice A a.ids.length c, .bool a.root.cell, .int .i64 a.root.n, .bool a.jumps]] w fun e w' => e = .returned (.bool (Ar.smallOf a)) ∧ Below w.heap.size w w' := by
  have HF := Lib.hid (OA.first w a A c)
  obtain ⟨e0, e1, e2, e3, -, -, -, -⟩ := cells4 HF.out.arg
  have HT := Lib.hid (thinL (hM.below HF.out.below))
  have HM := Lib.hid (fun W (hB : Below w.heap.size w W) => hM.below hB)
  have hs : Ar.smallOf a = (Ar.thinOf a && (decide (Ar.checkOf a = 0) && decide ((Ar.allOf a).length ≤ 300))) := rfl
  clear hM
  cases ht : Ar.thinOf a
  · rw [ht] at HT hs
    rw [hs]
    clear ht hs
    go_enter Tryz.func50, Tryz.ntmps50
    go_wp2_with (go_at_call 16; refine HT.out.mono ?_; rintro e w2 ⟨rfl, hB2⟩; have hF := HF.out.next hB2)
    go_ret
    exact ⟨rfl, hF.below⟩
  · rw [ht] at HT hs
    rw [Bool.true_and] at hs
    have HCK := Lib.hid (fun W (hB : Below w.heap.size w W) => refCheckL (c := c) ((HM.out W hB).m ht))
    have HAL := Lib.hid (fun W (hB : Below w.heap.size w W) (hr : Ar.Right a) => refAllL (c := c) ((HM.out W hB).m ht) hr)
    clear ht
    by_cases hck : Ar.checkOf a = 0
    · have hrr := Ar.right_of_check hck
      have HAL := Lib.hid (fun W (hB : Below w.heap.size w W) => HAL.out W hB hrr)
      rw [hck, decide_eq_true rfl, Bool.true_and] at hs
      rw [hck] at HCK
      rw [hs]
      clear hck hs hrr
      generalize Ar.allOf a = AL at *
      go_enter Tryz.func50, Tryz.ntmps50
      go_wp2_with (first
        | (go_at_call 63; refine (HAL.out _ hF3.below).mono ?_; rintro e w4 ⟨B, d, rfl, -, hB4⟩)
        | (go_at_call 24; refine (HCK.out _ hF.below).mono ?_; rintro e w3 ⟨rfl, hB3⟩; have hF3 := hF.next hB3; obtain ⟨y0, y1, y2, y3, -, -, -, -⟩ := cells4 hF3.arg)
        | (go_at_call 16; refine HT.out.mono ?_; rintro e w2 ⟨rfl, hB2⟩; have hF := HF.out.next hB2; obtain ⟨x0, x1, x2, x3, -, -, -, -⟩ := cells4 hF.arg))
      go_ret
      exact ⟨ret_bool (Bool.eq_iff_iff.2 (by simp only [decide_eq_true_eq]; omega)), hF3.below.trans (hB4.mono hF3.below.size)⟩
    · rw [decide_eq_false hck, Bool.false_and] at hs
      have hne : ((Ar.checkOf a : Int) == 0) = false := by rw [beq_eq_false_iff_ne]; omega
      rw [hs]
      clear hck hs
      generalize Ar.checkOf a = CK at *
      go_enter Tryz.func50, Tryz.ntmps50
      go_wp2_with (first
        | (go_at_call 24; refine (HCK.out _ hF.below).mono ?_; rintro e w3 ⟨rfl, hB3⟩; have hF3 := hF.next hB3)
        | (go_at_call 16; refine HT.out.mono ?_; rintro e w2 ⟨rfl, hB2⟩; have hF := HF.out.next hB2; obtain ⟨x0, x1, x2, x3, -, -, -, -⟩ := cells4 hF.arg))
      go_ret
      exact ⟨rfl, hF3.below⟩

theorem MovesL {a : Ar.Are} {A : Option Addr} {c : Nat} {P : Nat → Option Addr × Nat} {W : World} (h : ArM W A P a) (hc : Ar.checkOf a = 0) : Calls Tryz.prog 20 #[.agg #[.slice A a.ids.length c, .bool a.root.cell, .int .i64 a.root.n, .bool a.jumps]] W fun e w' => ∃ B d, e = .returned (.tuple #[.slice B (Ar.allOf a).length d, .int .i64 0]) ∧ Mvs w' w'.heap.size B (Ar.allOf a) ∧ Below W.heap.size W w' :=
  (moves_any a A c P W h).mono fun e w' ⟨v, h1, h2, h3⟩ => by
    have hm : Ar.movesRes a = Ar.allOf a := by unfold Ar.movesRes; rw [if_pos hc]
    rw [hm] at h2
    obtain ⟨B, d, rfl, hm⟩ := lies_of_own h2
    exact ⟨B, d, by rw [h1, hc]; rfl, hm, h3⟩
set_option maxRecDepth 100000 in
set_option maxHeartbeats 8000000 in
theorem lawMoves_any (a : Ar.Are) (A : Option Addr) (c : Nat) (P : Nat → Option Addr × Nat) (w : World) (hM : AreM w A c P a) (ht : Ar.thinOf a = true) (hck : Ar.checkOf a = 0) (h300 : (Ar.allOf a).length ≤ 300) :
    Calls Tryz.prog 51 #[.agg #[.slice A a.ids.length c, .bool a.root.cell, .int .i64 a.root.n, .bool a.jumps]] w fun e w' => ∃ B d, e = .returned (.tuple #[.slice B (Ar.allOf a).length d, .bool true]) ∧ Mvs w' w'.heap.size B (Ar.allOf a) ∧ Below w.heap.size w w' := by
  have HF := Lib.hid (OA.first w a A c)
  obtain ⟨e0, e1, e2, e3, -, -, -, -⟩ := cells4 HF.out.arg
  have HCP := Lib.hid (fun W (hB : Below w.heap.size w W) => copyL (hM.below hB) ht)
  have HMV := Lib.hid (fun (W : World) (B : Option Addr) (d : Nat) (Q : Nat → Option Addr × Nat) (h : ArM W B Q a) => MovesL (c := d) h hck)
  have HASC := Lib.hid (fun i x y hx hy => Ar.all_asc (Ar.right_of_check hck) (i := i) (x := x) (y := y) hx hy)
  clear hM ht hck
  generalize Ar.allOf a = AL at *
  go_enter Tryz.func51, Tryz.ntmps51
  go_wp2_with (first
    | (go_at_call 20; refine (HMV.out _ _ _ _ hMb).mono ?_; rintro e w3 ⟨B, d, rfl, hm3, hB3⟩; have hF3 := Lib.hid (hF.next hB3); have HM3 := Lib.hid hm3)
    | (go_at_call 18; refine (HCP.out _ HF.out.below).mono ?_; rintro e w2 ⟨Ab, cb, Pb, rfl, hMb, hB2⟩; have hF := HF.out.next hB2))
  go_loopw [6] (fun i wr => ∃ (j : Nat), j ≤ AL.length ∧ i = .int .i64 ((j : Int) + 1) ∧ Hid (Below w3.heap.size w3 wr)) (fun i _ => AL.length + 1 - (intOf i).toNat)
  case atStart => exact ⟨0, Nat.zero_le _, by simp, Below.refl _ _⟩
  case round =>
    obtain ⟨j, hj, rfl, hB⟩ := hrel
    by_cases hlt : j + 1 < AL.length
    · obtain ⟨x, hx⟩ : ∃ x, AL[j]? = some x := ⟨_, List.getElem?_eq_getElem (by omega)⟩
      obtain ⟨y, hy⟩ : ∃ y, AL[j + 1]? = some y := ⟨_, List.getElem?_eq_getElem hlt⟩
      obtain ⟨b, off, hAe, hbB, hc⟩ := (HM3.out.below hB.out) (by intro e; rw [e] at hlt; simp at hlt)
      obtain ⟨c0, c1, c2, c3⟩ := hc j x hx
      obtain ⟨d0, d1, d2, d3⟩ := hc (j + 1) y hy
      have hless := HASC.out j x y hx hy
      have HLS := Lib.hid (fun W => (less_lit x.id x.arg x.kind x.n y.id y.arg y.kind y.n W))
      have hlx : Ar.lessOf ⟨x.id, x.arg, x.kind, x.n⟩ ⟨y.id, y.arg, y.kind, y.n⟩ = true := hless
      rw [hlx] at HLS
      have hle : ((j : Int) + 1 < (AL.length : Int)) := by omega
      have hkk : (j : Int) + 1 - 1 = (j : Int) := by omega
      have hw1 : IntKind.i64.wrap ((j : Int) + 1 - 1) = (j : Int) := by rw [hkk]; exact IntWalk.i64_in _ (by omega)
      have hw2 : IntKind.i64.wrap (j : Int) = (j : Int) := IntWalk.i64_in _ (by omega)
      have hb0 : (0 : Int) ≤ (j : Int) := by omega
      have hb1 : (j : Int) < (AL.length : Int) := by omega
      have hb2 : (j : Int) ≤ (AL.length : Int) := by omega
      have hb3 : (0 : Int) ≤ (j : Int) + 1 := by omega
      have hnn : ((j : Int) + 1).toNat = j + 1 := by omega
      clear hx hy hc hless hlx
      subst hAe
      go_wp2
      go_region_law (go_simp; go_at_call 47; refine (HLS.out _).mono ?_; rintro e w5 ⟨rfl, hB5⟩)
      all_goals go_wp2
      all_goals
        go_roundw
        case rel => exact ⟨j + 1, by omega, by go_num, hB.out.drew.trans (hB5.mono hB.out.size)⟩
        case measure => simp [intOf]; omega
    · have hle : ¬ ((j : Int) + 1 < (AL.length : Int)) := by omega
      go_wp2
      go_ret2
      exact ⟨B, ⟨d, rfl⟩, HM3.out.next hB.out, hF3.out.below.trans (hB.out.mono hF3.out.below.size)⟩

set_option maxRecDepth 100000 in
set_option maxHeartbeats 8000000 in
theorem lawWhose_any (a : Ar.Are) (A : Option Addr) (c : Nat) (P : Nat → Option Addr × Nat) (m : Ar.Mv) (w : World) (hM : AreM w A c P a) (ht : Ar.thinOf a = true) (hf : Ar.findErr a m = 0) :
    Calls Tryz.prog 52 #[.agg #[.slice A a.ids.length c, .bool a.root.cell, .int .i64 a.root.n, .bool a.jumps], .agg #[.int .i64 m.id, .int .i64 m.arg, .int .u8 m.kind, .int .i64 m.n]] w fun e w' => e = .returned (.tuple #[.bool (Ar.otherRef m), .bool true]) ∧ Below w.heap.size w w' := by
  have HF := Lib.hid (AB.first w a A c m)
  obtain ⟨e0, e1, e2, e3, -, -, -, -⟩ := cells4 HF.out.arg
  obtain ⟨f0, f1, f2, f3, -, -, -, -⟩ := cells4 HF.out.mv
  have HS0 : Hid (ABc w a A c m ((w.alloc (.cells #[.slice A a.ids.length c, .bool a.root.cell, .int .i64 a.root.n, .bool a.jumps] 26 (0, 0))).alloc (.cells #[.int .i64 m.id, .int .i64 m.arg, .int .u8 m.kind, .int .i64 m.n] 40 (0, 0))).drew) := ⟨HF.out.below.drew, e0, e1, e2, e3, f0, f1, f2, f3⟩
  have HCP := Lib.hid (fun W (hB : Below w.heap.size w W) => copyL (hM.below hB) ht)
  have HOT := Lib.hid (fun (W : World) (B : Option Addr) (d : Nat) (Q : Nat → Option Addr × Nat) (h : ArM W B Q a) => otherL (c := d) m h)
  have hwr : Ar.whoseRef a m = Ar.otherRef m := by unfold Ar.whoseRef; rw [if_pos hf]
  rw [hwr, hf] at HOT
  clear hM ht hf hwr
  generalize Ar.otherRef m = OT at *
  go_enter Tryz.func52, Tryz.ntmps52
  go_wp2
  generalize ((w.alloc (.cells #[.slice A a.ids.length c, .bool a.root.cell, .int .i64 a.root.n, .bool a.jumps] 26 (0, 0))).alloc (.cells #[.int .i64 m.id, .int .i64 m.arg, .int .u8 m.kind, .int .i64 m.n] 40 (0, 0))) = W0 at *
  go_region_held3 (fun w' => Below w.heap.size w w' ∧ w'.cell? ⟨w.heap.size, 0, none⟩ = some (.slice A a.ids.length c) ∧ w'.cell? ⟨w.heap.size, 1, none⟩ = some (.bool a.root.cell) ∧ w'.cell? ⟨w.heap.size, 2, none⟩ = some (.int .i64 a.root.n) ∧ w'.cell? ⟨w.heap.size, 3, none⟩ = some (.bool a.jumps) ∧
        w'.cell? ⟨w.heap.size + 1, 0, none⟩ = some (.int .i64 m.id) ∧ w'.cell? ⟨w.heap.size + 1, 1, none⟩ = some (.int .i64 m.arg) ∧ w'.cell? ⟨w.heap.size + 1, 2, none⟩ = some (.int .u8 m.kind) ∧ w'.cell? ⟨w.heap.size + 1, 3, none⟩ = some (.int .i64 m.n))
    (first
      | exact HS0.out
      | assumption
      | exact ABc.next (by assumption) hBc
      | exact ABc.next (by assumption) hBd
      | go_keep)
    ((first
      | (go_at_call 28; refine (HOT.out _ _ _ _ hMb).mono ?_; rintro e wd ⟨rfl, hBd⟩)
      | (go_at_call 18; refine (HCP.out _ (SI_below (by assumption))).mono ?_; rintro e wc ⟨Ab, cb, Pb, rfl, hMb, hBc⟩)))
  have hS : ABc w a A c m wd := by assumption
  have HS := Lib.hid hS
  clear hS
  go_wp2
  go_ret2
  exact ⟨rfl, HS.out.1⟩
end Go.Proofs.YtbfpgjnagpcbeaaGreatDoor
