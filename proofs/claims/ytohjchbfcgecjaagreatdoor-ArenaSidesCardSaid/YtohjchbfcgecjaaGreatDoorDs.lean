/-
  WALKS: small arenas, their moves, whose each is.
-/
import Derived.Test.YtohjchbfcgecjaaGreatDoorDr
import Derived.Test.YtohjchbfcgecjaaGreatDoorDq
namespace Go.Proofs.YtohjchbfcgecjaaGreatDoor
open Go.RowKit Go.MapKept Go.Shelf

namespace Ar
def smallOf (a : Are) : Bool := thinOf a && (decide (checkOf a = 0) && decide ((allOf a).length ≤ 300))
theorem small_parts {a : Are} (h : smallOf a = true) : thinOf a = true ∧ checkOf a = 0 ∧ (allOf a).length ≤ 300 := by
  unfold smallOf at h
  simp only [Bool.and_eq_true, decide_eq_true_eq] at h
  exact h
theorem in_arena {a : Are} (h : checkOf a = 0) {x : Mv} (hx : x ∈ cellAt a x.id x.arg) : findErr a x = 0 := by
  have hh : hasRef a x = true := by
    unfold hasRef
    rw [Bool.or_eq_true]
    unfold cellAt at hx
    rcases List.mem_append.1 hx with hx | hx
    · exact .inl (List.any_eq_true.2 ⟨x, hx, mvEq_self x⟩)
    · exact .inr (List.any_eq_true.2 ⟨x, hx, mvEq_self x⟩)
  rw [has_ref h, hh]; rfl
theorem other_bit (x : Mv) : otherRef x = (bit x != askOf x) := rfl
theorem ans_zero {a : Are} {m : Mv} (h : ansErr a m = 0) : findErr a m = 0 ∧ askOf m = true := by
  unfold ansErr at h
  by_cases hf : findErr a m = 0
  · rw [if_pos hf] at h
    refine ⟨hf, ?_⟩
    cases hk : askOf m
    · rw [hk] at h; cases h
    · rfl
  · rw [if_neg hf] at h
    exact absurd h hf
/-- What answers a move, and what stands below it, is in the arena, and of the other side. -/
theorem sides {a : Are} {m x : Mv} (hc : checkOf a = 0) (hx : x ∈ ansRef a m ++ undRef a m) : findErr a x = 0 ∧ otherRef x = !otherRef m := by
  have hr := right_of_check hc
  rcases List.mem_append.1 hx with hx | hx
  · unfold ansRef at hx
    by_cases h0 : ansErr a m = 0
    · rw [if_pos h0] at hx
      obtain ⟨h1, h2, h3, h4⟩ := told_sub hr hx
      refine ⟨in_arena hc h1, ?_⟩
      rw [other_bit, other_bit, (ans_zero h0).2]
      have e1 : askOf x = false := by unfold askOf; rw [h4]; rfl
      have e2 : bit x = bit m := by unfold bit; rw [h2, h3]
      rw [e1, e2]
      cases bit m <;> rfl
    · rw [if_neg h0] at hx; cases hx
  · unfold undRef at hx
    by_cases h0 : ansErr a m = 0
    · rw [if_pos h0] at hx
      obtain ⟨h1, h2, h3⟩ := below_of hx
      refine ⟨in_arena hc h3, ?_⟩
      rw [other_bit, other_bit, (ans_zero h0).2]
      have e1 : askOf x = true := by
        unfold askOf
        rcases h2 with h2 | h2
        · rw [h2]; rfl
        · rw [h2]; rfl
      rw [e1, h1]
      cases bit m <;> rfl
    · rw [if_neg h0] at hx; cases hx
theorem ans_two {a : Are} {m : Mv} (h : findErr a m = 0) : ansErr a m = 0 ∨ ansErr a m = 2 := by
  unfold ansErr
  rw [if_pos h]
  cases askOf m
  · exact .inr rfl
  · exact .inl rfl
theorem both_len {a : Are} {m : Mv} (hc : checkOf a = 0) : (ansRef a m).length ≤ 65 ∧ (undRef a m).length ≤ 520 := by
  have hr := right_of_check hc
  constructor
  · unfold ansRef
    split
    · exact (places_short hr m.id m.arg m.kind).2
    · exact Nat.zero_le _
  · unfold undRef
    split
    · unfold belowOf
      split
      · have h1 := belowArgs_len hr m.id (manyOf a m.id) 0
        have h2 : manyOf a m.id ≤ 5 := by
          unfold manyOf
          split
          · rename_i t ht
            exact hr.long t (List.mem_of_getElem? ht)
          · exact Nat.zero_le _
        omega
      · have h1 := belowIds_len hr a.ids.length 0
        have := hr.ids
        omega
    · exact Nat.zero_le _
theorem ans_some {a : Are} {m : Mv} (h : ansErr a m = 0) : 0 < (ansRef a m).length := by
  obtain ⟨h1, _⟩ := ans_zero h
  obtain ⟨hc, _, b, hb⟩ := findErr_zero h1
  obtain ⟨hb1, _⟩ := placeOf_right (right_of_check hc) hb
  unfold ansRef
  rw [if_pos h]
  unfold toldAt
  rw [hb]
  simp only
  unfold tellsOf
  rw [List.length_append, valsFrom_length]
  have : 0 < (if m.kind = 1 then b.n.toNat else min 1 b.n.toNat) := by split <;> omega
  omega
theorem ans_none {a : Are} {m : Mv} (h : ansErr a m ≠ 0) : ansRef a m = [] ∧ undRef a m = [] := ⟨by unfold ansRef; rw [if_neg h], by unfold undRef; rw [if_neg h]⟩
end Ar

theorem refAllL {a : Ar.Are} {A : Option Addr} {c : Nat} {P : Nat → Option Addr × Nat} {W : World} (h : ArM W A P a) (hr : Ar.Right a) : Calls Tryz.prog 63 #[.agg #[.slice A a.ids.length c, .bool a.root.cell, .int .i64 a.root.n, .bool a.jumps]] W fun e w' => ∃ B d, e = .returned (.slice B (Ar.allOf a).length d) ∧ Mvs w' w'.heap.size B (Ar.allOf a) ∧ Below W.heap.size W w' :=
  (refAll_any a A c P W h hr).mono fun e w' ⟨v, h1, h2, h3⟩ => by
    obtain ⟨B, d, rfl, hm⟩ := lies_of_own h2
    exact ⟨B, d, h1, hm, h3⟩
set_option maxRecDepth 100000 in
set_option maxHeartbeats 4000000 in
theorem small_any (a : Ar.Are) (A : Option Addr) (c : Nat) (P : Nat → Option Addr × Nat) (w : World) (hM : AreM w A c P a) :
    Calls Tryz.prog 50 #[.agg #[.slice A a.ids.length c, .bool a.root.cell, .int .i64 a.root.n, .bool a.jumps]] w fun e w' => e = .returned (.bool (Ar.smallOf a)) ∧ Below w.heap.size w w' := by
  have HF := Lib.hid (OA.first w a A c)
  obtain ⟨e0, e1, e2, e3, -, -, -, -⟩ := cells4 HF.out.arg
  have HT := Lib.hid (thinL (hM.below HF.out.below))
  have HM := Lib.hid (fun W (hB : Below w.heap.size w W) => hM.below hB)
  have hs : Ar.smallOf a = (Ar.thinOf a && (decide (Ar.checkOf a = 0) && decide ((Ar.allOf a).length ≤ 300))) := rfl
  clear hM
  cases ht : Ar.thinOf a
  · rw [ht] at HT hs
    rw [hs]
    clear ht hs
    go_enter Tryz.func50, Tryz.ntmps50
    go_wp2_with (go_at_call 16; refine HT.out.mono ?_; rintro e w2 ⟨rfl, hB2⟩; have hF := HF.out.next hB2)
    go_ret
    exact ⟨rfl, hF.below⟩
  · rw [ht] at HT hs
    rw [Bool.true_and] at hs
    have HCK := Lib.hid (fun W (hB : Below w.heap.size w W) => refCheckL (c := c) ((HM.out W hB).m ht))
    have HAL := Lib.hid (fun W (hB : Below w.heap.size w W) (hr : Ar.Right a) => refAllL (c := c) ((HM.out W hB).m ht) hr)
    clear ht
    by_cases hck : Ar.checkOf a = 0
    · have hrr := Ar.right_of_check hck
      have HAL := Lib.hid (fun W (hB : Below w.heap.size w W) => HAL.out W hB hrr)
      rw [hck, decide_eq_true rfl, Bool.true_and] at hs
      rw [hck] at HCK
      rw [hs]
      clear hck hs hrr
      generalize Ar.allOf a = AL at *
      go_enter Tryz.func50, Tryz.ntmps50
      go_wp2_with (first
        | (go_at_call 63; refine (HAL.out _ hF3.below).mono ?_; rintro e w4 ⟨B, d, rfl, -, hB4⟩)
        | (go_at_call 24; refine (HCK.out _ hF.below).mono ?_; rintro e w3 ⟨rfl, hB3⟩; have hF3 := hF.next hB3; obtain ⟨y0, y1, y2, y3, -, -, -, -⟩ := cells4 hF3.arg)
        | (go_at_call 16; refine HT.out.mono ?_; rintro e w2 ⟨rfl, hB2⟩; have hF := HF.out.next hB2; obtain ⟨x0, x1, x2, x3, -, -, -, -⟩ := cells4 hF.arg))
      go_ret
      exact ⟨ret_bool (Bool.eq_iff_iff.2 (by simp only [decide_eq_true_eq]; omega)), hF3.below.trans (hB4.mono hF3.below.size)⟩
    · rw [decide_eq_false hck, Bool.false_and] at hs
      have hne : ((Ar.checkOf a : Int) == 0) = false := by rw [beq_eq_false_iff_ne]; omega
      rw [hs]
      clear hck hs
      generalize Ar.checkOf a = CK at *
      go_enter Tryz.func50, Tryz.ntmps50
      go_wp2_with (first
        | (go_at_call 24; refine (HCK.out _ hF.below).mono ?_; rintro e w3 ⟨rfl, hB3⟩; have hF3 := hF.next hB3)
        | (go_at_call 16; refine HT.out.mono ?_; rintro e w2 ⟨rfl, hB2⟩; have hF := HF.out.next hB2; obtain ⟨x0, x1, x2, x3, -, -, -, -⟩ := cells4 hF.arg))
      go_ret
      exact ⟨rfl, hF3.below⟩

theorem MovesL {a : Ar.Are} {A : Option Addr} {c : Nat} {P : Nat → Option Addr × Nat} {W : World} (h : ArM W A P a) (hc : Ar.checkOf a = 0) : Calls Tryz.prog 20 #[.agg #[.slice A a.ids.length c, .bool a.root.cell, .int .i64 a.root.n, .bool a.jumps]] W fun e w' => ∃ B d, e = .returned (.tuple #[.slice B (Ar.allOf a).length d, .int .i64 0]) ∧ Mvs w' w'.heap.size B (Ar.allOf a) ∧ Below W.heap.size W w' :=
  (moves_any a A c P W h).mono fun e w' ⟨v, h1, h2, h3⟩ => by
    have hm : Ar.movesRes a = Ar.allOf a := by unfold Ar.movesRes; rw [if_pos hc]
    rw [hm] at h2
    obtain ⟨B, d, rfl, hm⟩ := lies_of_own h2
    exact ⟨B, d, by rw [h1, hc]; rfl, hm, h3⟩
set_option maxRecDepth 100000 in
set_option maxHeartbeats 8000000 in
theorem lawMoves_any (a : Ar.Are) (A : Option Addr) (c : Nat) (P : Nat → Option Addr × Nat) (w : World) (hM : AreM w A c P a) (ht : Ar.thinOf a = true) (hck : Ar.checkOf a = 0) (h300 : (Ar.allOf a).length ≤ 300) :
    Calls Tryz.prog 51 #[.agg #[.slice A a.ids.length c, .bool a.root.cell, .int .i64 a.root.n, .bool a.jumps]] w fun e w' => ∃ B d, e = .returned (.tuple #[.slice B (Ar.allOf a).length d, .bool true]) ∧ Mvs w' w'.heap.size B (Ar.allOf a) ∧ Below w.heap.size w w' := by
  have HF := Lib.hid (OA.first w a A c)
  obtain ⟨e0, e1, e2, e3, -, -, -, -⟩ := cells4 HF.out.arg
  have HCP := Lib.hid (fun W (hB : Below w.heap.size w W) => copyL (hM.below hB) ht)
  have HMV := Lib.hid (fun (W : World) (B : Option Addr) (d : Nat) (Q : Nat → Option Addr × Nat) (h : ArM W B Q a) => MovesL (c := d) h hck)
  have HASC := Lib.hid (fun i x y hx hy => Ar.all_asc (Ar.right_of_check hck) (i := i) (x := x) (y := y) hx hy)
  clear hM ht hck
  generalize Ar.allOf a = AL at *
  go_enter Tryz.func51, Tryz.ntmps51
  go_wp2_with (first
    | (go_at_call 20; refine (HMV.out _ _ _ _ hMb).mono ?_; rintro e w3 ⟨B, d, rfl, hm3, hB3⟩; have hF3 := Lib.hid (hF.next hB3); have HM3 := Lib.hid hm3)
    | (go_at_call 18; refine (HCP.out _ HF.out.below).mono ?_; rintro e w2 ⟨Ab, cb, Pb, rfl, hMb, hB2⟩; have hF := HF.out.next hB2))
  go_loopw [6] (fun i wr => ∃ (j : Nat), j ≤ AL.length ∧ i = .int .i64 ((j : Int) + 1) ∧ Hid (Below w3.heap.size w3 wr)) (fun i _ => AL.length + 1 - (intOf i).toNat)
  case atStart => exact ⟨0, Nat.zero_le _, by simp, Below.refl _ _⟩
  case round =>
    obtain ⟨j, hj, rfl, hB⟩ := hrel
    by_cases hlt : j + 1 < AL.length
    · obtain ⟨x, hx⟩ : ∃ x, AL[j]? = some x := ⟨_, List.getElem?_eq_getElem (by omega)⟩
      obtain ⟨y, hy⟩ : ∃ y, AL[j + 1]? = some y := ⟨_, List.getElem?_eq_getElem hlt⟩
      obtain ⟨b, off, hAe, hbB, hc⟩ := (HM3.out.below hB.out) (by intro e; rw [e] at hlt; simp at hlt)
      obtain ⟨c0, c1, c2, c3⟩ := hc j x hx
      obtain ⟨d0, d1, d2, d3⟩ := hc (j + 1) y hy
      have hless := HASC.out j x y hx hy
      have HLS := Lib.hid (fun W => (less_lit x.id x.arg x.kind x.n y.id y.arg y.kind y.n W))
      have hlx : Ar.lessOf ⟨x.id, x.arg, x.kind, x.n⟩ ⟨y.id, y.arg, y.kind, y.n⟩ = true := hless
      rw [hlx] at HLS
      have hle : ((j : Int) + 1 < (AL.length : Int)) := by omega
      have hkk : (j : Int) + 1 - 1 = (j : Int) := by omega
      have hw1 : IntKind.i64.wrap ((j : Int) + 1 - 1) = (j : Int) := by rw [hkk]; exact IntWalk.i64_in _ (by omega)
      have hw2 : IntKind.i64.wrap (j : Int) = (j : Int) := IntWalk.i64_in _ (by omega)
      have hb0 : (0 : Int) ≤ (j : Int) := by omega
      have hb1 : (j : Int) < (AL.length : Int) := by omega
      have hb2 : (j : Int) ≤ (AL.length : Int) := by omega
      have hb3 : (0 : Int) ≤ (j : Int) + 1 := by omega
      have hnn : ((j : Int) + 1).toNat = j + 1 := by omega
      clear hx hy hc hless hlx
      subst hAe
      go_wp2
      go_region_law (go_simp; go_at_call 47; refine (HLS.out _).mono ?_; rintro e w5 ⟨rfl, hB5⟩)
      all_goals go_wp2
      all_goals
        go_roundw
        case rel => exact ⟨j + 1, by omega, by go_num, hB.out.drew.trans (hB5.mono hB.out.size)⟩
        case measure => simp [intOf]; omega
    · have hle : ¬ ((j : Int) + 1 < (AL.length : Int)) := by omega
      go_wp2
      go_ret2
      exact ⟨B, ⟨d, rfl⟩, HM3.out.next hB.out, hF3.out.below.trans (hB.out.mono hF3.out.below.size)⟩

set_option maxRecDepth 100000 in
set_option maxHeartbeats 8000000 in
theorem lawWhose_any (a : Ar.Are) (A : Option Addr) (c : Nat) (P : Nat → Option Addr × Nat) (m : Ar.Mv) (w : World) (hM : AreM w A c P a) (ht : Ar.thinOf a = true) (hf : Ar.findErr a m = 0) :
    Calls Tryz.prog 52 #[.agg #[.slice A a.ids.length c, .bool a.root.cell, .int .i64 a.root.n, .bool a.jumps], .agg #[.int .i64 m.id, .int .i64 m.arg, .int .u8 m.kind, .int .i64 m.n]] w fun e w' => e = .returned (.tuple #[.bool (Ar.otherRef m), .bool true]) ∧ Below w.heap.size w w' := by
  have HF := Lib.hid (AB.first w a A c m)
  obtain ⟨e0, e1, e2, e3, -, -, -, -⟩ := cells4 HF.out.arg
  obtain ⟨f0, f1, f2, f3, -, -, -, -⟩ := cells4 HF.out.mv
  have HS0 : Hid (ABc w a A c m ((w.alloc (.cells #[.slice A a.ids.length c, .bool a.root.cell, .int .i64 a.root.n, .bool a.jumps] 26 (0, 0))).alloc (.cells #[.int .i64 m.id, .int .i64 m.arg, .int .u8 m.kind, .int .i64 m.n] 40 (0, 0))).drew) := ⟨HF.out.below.drew, e0, e1, e2, e3, f0, f1, f2, f3⟩
  have HCP := Lib.hid (fun W (hB : Below w.heap.size w W) => copyL (hM.below hB) ht)
  have HOT := Lib.hid (fun (W : World) (B : Option Addr) (d : Nat) (Q : Nat → Option Addr × Nat) (h : ArM W B Q a) => otherL (c := d) m h)
  have hwr : Ar.whoseRef a m = Ar.otherRef m := by unfold Ar.whoseRef; rw [if_pos hf]
  rw [hwr, hf] at HOT
  clear hM ht hf hwr
  generalize Ar.otherRef m = OT at *
  go_enter Tryz.func52, Tryz.ntmps52
  go_wp2
  generalize ((w.alloc (.cells #[.slice A a.ids.length c, .bool a.root.cell, .int .i64 a.root.n, .bool a.jumps] 26 (0, 0))).alloc (.cells #[.int .i64 m.id, .int .i64 m.arg, .int .u8 m.kind, .int .i64 m.n] 40 (0, 0))) = W0 at *
  go_region_held3 (fun w' => Below w.heap.size w w' ∧ w'.cell? ⟨w.heap.size, 0, none⟩ = some (.slice A a.ids.length c) ∧ w'.cell? ⟨w.heap.size, 1, none⟩ = some (.bool a.root.cell) ∧ w'.cell? ⟨w.heap.size, 2, none⟩ = some (.int .i64 a.root.n) ∧ w'.cell? ⟨w.heap.size, 3, none⟩ = some (.bool a.jumps) ∧
        w'.cell? ⟨w.heap.size + 1, 0, none⟩ = some (.int .i64 m.id) ∧ w'.cell? ⟨w.heap.size + 1, 1, none⟩ = some (.int .i64 m.arg) ∧ w'.cell? ⟨w.heap.size + 1, 2, none⟩ = some (.int .u8 m.kind) ∧ w'.cell? ⟨w.heap.size + 1, 3, none⟩ = some (.int .i64 m.n))
    (first
      | exact HS0.out
      | assumption
      | exact ABc.next (by assumption) hBc
      | exact ABc.next (by assumption) hBd
      | go_keep)
    ((first
      | (go_at_call 28; refine (HOT.out _ _ _ _ hMb).mono ?_; rintro e wd ⟨rfl, hBd⟩)
      | (go_at_call 18; refine (HCP.out _ (SI_below (by assumption))).mono ?_; rintro e wc ⟨Ab, cb, Pb, rfl, hMb, hBc⟩)))
  have hS : ABc w a A c m wd := by assumption
  have HS := Lib.hid hS
  clear hS
  go_wp2
  go_ret2
  exact ⟨rfl, HS.out.1⟩
end Go.Proofs.YtohjchbfcgecjaaGreatDoor
