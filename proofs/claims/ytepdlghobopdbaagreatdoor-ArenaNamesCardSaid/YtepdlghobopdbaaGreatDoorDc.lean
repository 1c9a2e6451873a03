/-
  WALKS: the reference's check of an arena; whether an arena is thin.
  WALKS: a copy of a type.
  WALKS: a copy of an arena.
-/
import Derived.Test.YtepdlghobopdbaaGreatDoorAp
import Derived.Test.YtepdlghobopdbaaGreatDoorBb
import Derived.Deep.AppendLies
import Derived.Test.YtepdlghobopdbaaGreatDoorBq
import Derived.Deep.RegionLaw
namespace Go.Proofs.YtepdlghobopdbaaGreatDoor
open Go.RowKit Go.Shelf

set_option maxRecDepth 100000 in
set_option maxHeartbeats 1000000 in
theorem refIn_any (n l h : Int) (w : World) : Calls Tryz.prog 88 #[.int .i64 n, .int .i64 l, .int .i64 h] w fun e w' => e = .returned (.bool (decide (l ≤ n) && decide (n ≤ h))) ∧ w' = w := by
  by_cases h1 : l ≤ n
  · have HQ : Hid ((decide (l ≤ n) && decide (n ≤ h)) = decide (n ≤ h)) := by rw [Hid, decide_eq_true h1]; rfl
    go_enter Tryz.func88, Tryz.ntmps88
    go_wp2
    go_ret
    exact ⟨ret_bool HQ.out.symm, rfl⟩
  · have HQ : Hid ((decide (l ≤ n) && decide (n ≤ h)) = false) := by rw [Hid, decide_eq_false h1]; rfl
    go_enter Tryz.func88, Tryz.ntmps88
    go_wp2
    go_ret
    exact ⟨ret_bool HQ.out.symm, rfl⟩

set_option maxRecDepth 100000 in
set_option maxHeartbeats 1000000 in
theorem refIsBase_any (b : Ar.Bs) (w : World) : Calls Tryz.prog 57 #[bsV b] w fun e w' => e = .returned (.bool (!Ar.wrongBase b)) ∧ Below w.heap.size w w' := by
  have hw : (!Ar.wrongBase b) = (decide (1 ≤ b.n) && decide (b.n ≤ 64)) := by
    unfold Ar.wrongBase
    by_cases h1 : 1 ≤ b.n
    · by_cases h2 : b.n ≤ 64
      · rw [decide_eq_true h1, decide_eq_true h2, decide_eq_false (show ¬ b.n < 1 by omega), decide_eq_false (show ¬ 64 < b.n by omega)]; rfl
      · rw [decide_eq_true h1, decide_eq_false h2, decide_eq_true (show 64 < b.n by omega)]; simp
    · rw [decide_eq_false h1, decide_eq_true (show b.n < 1 by omega)]; rfl
  rw [hw]
  have HI := Lib.hid (fun W => refIn_any b.n 1 64 W)
  have hB0 : Below w.heap.size w (w.alloc (.cells #[.bool b.cell, .int .i64 b.n] 25 (0, 0))) := (Below.refl _ _).alloc (Nat.le_refl _) _
  unfold bsV
  clear hw
  generalize (decide (1 ≤ b.n) && decide (b.n ≤ 64)) = R at *
  go_enter Tryz.func57, Tryz.ntmps57
  go_wp2_with (go_at_call 88; refine (HI.out _).mono ?_; rintro e w2 ⟨rfl, rfl⟩)
  go_ret
  exact ⟨rfl, hB0⟩

theorem neg_any {R : Bool} {l : List Ar.Bs} (h : R = l.any Ar.wrongBase) : R = true ∨ R = false := by cases R <;> simp
set_option maxRecDepth 100000 in
set_option maxHeartbeats 2000000 in
theorem refIsType_any (PA : Option Addr) (pc : Nat) (t : Ar.Ty) (w : World) (h5 : t.params.length ≤ 1000000) (hT : Bas w w.heap.size PA t.params) : Calls Tryz.prog 56 #[tyV PA pc t] w fun e w' => e = .returned (.bool (!Ar.wrongType t)) ∧ Below w.heap.size w w' := by
  have hw : (!Ar.wrongType t) = (!(Ar.wrongBase t.result || t.params.any Ar.wrongBase || (t.result.cell && decide (0 < t.params.length)))) := rfl
  have HB := Lib.hid (fun (x : Ar.Bs) W => refIsBase_any x W)
  unfold bsV at HB
  have ht0 := World.alloc_heap_new w (tyO PA pc t)
  have hB0 : Below w.heap.size w (w.alloc (tyO PA pc t)) := (Below.refl _ _).alloc (Nat.le_refl _) _
  unfold tyO at ht0 hB0
  have HT := Lib.hid hT
  obtain ⟨R, hR⟩ : ∃ R, t.params.any Ar.wrongBase = R := ⟨_, rfl⟩
  rw [hR] at hw
  rw [hw]
  have HR := Lib.hid hR
  have HT0 := Lib.hid ht0
  have HB0 := Lib.hid hB0
  unfold tyV
  clear hR ht0 hw hT hB0
  obtain ⟨e0, e1, e2⟩ := cells3 HT0.out
  go_enter Tryz.func56, Tryz.ntmps56
  go_wp2
  clear e0 e1 e2
  go_loopw [3] (fun i wr => ∃ k : Nat, k ≤ t.params.length ∧ i = .int .i64 k ∧ Hid (R = (t.params.drop k).any Ar.wrongBase) ∧ Below w.heap.size w wr ∧ Hid (wr.heap[w.heap.size]? = some (.cells #[.slice PA t.params.length pc, .bool t.result.cell, .int .i64 t.result.n] 53 (0, 0)))) (fun i _ => t.params.length - (intOf i).toNat)
  case atStart => exact ⟨0, Nat.zero_le _, rfl, HR.out.symm, HB0.out, HT0.out⟩
  case round =>
    obtain ⟨k, hk, rfl, hr, hB, hb⟩ := hrel
    obtain ⟨e0, e1, e2⟩ := cells3 hb.out
    by_cases hlt : k < t.params.length
    · obtain ⟨x, hx⟩ : ∃ x, t.params[k]? = some x := ⟨_, List.getElem?_eq_getElem hlt⟩
      obtain ⟨b, off, hA, hbB, hc⟩ := (HT.out.below hB) (by intro e; rw [e] at hlt; simp at hlt)
      obtain ⟨c0, c1⟩ := hc k x hx
      have hr' := hr.out
      rw [Ar.drop_of_get hx, List.any_cons] at hr'
      clear hr hx hc
      subst hA
      have HP := Lib.hid (fun W => HB.out x W)
      cases hp : Ar.wrongBase x
      all_goals
        rw [hp] at hr' HP
        simp only [Bool.false_or, Bool.true_or] at hr'
        simp only [Bool.not_false, Bool.not_true] at HP
        have HQ := Lib.hid hr'; clear hr' hp
        go_wp2_with (go_at_call 57; refine (HP.out _).mono ?_; rintro e w2 ⟨rfl, hB2⟩; have hb2 := Lib.hid ((hB2.block _ (lt_of_heap hb.out)).trans hb.out))
        first
          | (go_ret; exact ⟨ret_bool (by rw [HQ.out]; simp), hB.trans (hB2.mono hB.size)⟩)
          | (go_roundw
             case rel => exact ⟨k + 1, by omega, by go_num, HQ.out, hB.trans (hB2.mono hB.size), hb2.out⟩
             case measure => simp [intOf]; omega)
    · obtain rfl : k = t.params.length := by omega
      have hr' := hr.out
      rw [List.drop_length, List.any_nil] at hr'
      subst hr'
      have HP := Lib.hid (fun W => HB.out t.result W)
      have HL0 := Lib.hid h5
      cases h1 : Ar.wrongBase t.result
      all_goals
        rw [h1] at HP
        simp only [Bool.not_false, Bool.not_true] at HP
        cases h3 : t.result.cell
        all_goals
          rw [h3] at HP e1 hb
          have H1 := Lib.hid h1; have H3 := Lib.hid h3
          clear h1 h3 hr
          by_cases hz : t.params.length = 0
          all_goals
            have HZ := Lib.hid hz
            have hzz : (((t.params.length : Nat) : Int) == 0) = decide (t.params.length = 0) := by
              by_cases h : t.params.length = 0
              · rw [decide_eq_true h, h]; rfl
              · rw [decide_eq_false h, beq_eq_false_iff_ne]; omega
            first
              | rw [decide_eq_true hz] at hzz
              | rw [decide_eq_false hz] at hzz
            clear hz
            go_wp2_with (go_at_call 57; refine (HP.out _).mono ?_; rintro e w2 ⟨rfl, hB2⟩; obtain ⟨d0, d1, d2⟩ := cells3 ((hB2.block _ (lt_of_heap hb.out)).trans hb.out))
            go_ret
            refine ⟨ret_bool ?_, hB.trans (hB2.mono hB.size)⟩
            rw [H1.out, H3.out]
            first
              | (rw [decide_eq_true (show 0 < t.params.length from Nat.pos_of_ne_zero HZ.out)]; rfl)
              | (rw [HZ.out]; rfl)

set_option maxRecDepth 100000 in
set_option maxHeartbeats 4000000 in
theorem refCheck_any (a : Ar.Are) (A : Option Addr) (c : Nat) (P : Nat → Option Addr × Nat) (w : World) (hA : ArM w A P a) : Calls Tryz.prog 23 #[arV A c a] w fun e w' => e = .returned (.int .i64 (Ar.checkOf a : Int)) ∧ Below w.heap.size w w' := by
  have hlen := hA.len
  have HT := Lib.hid hA.tys
  have HP5 := Lib.hid hA.par
  have ht0 := World.alloc_heap_new w (.cells #[.slice A a.ids.length c, .bool a.root.cell, .int .i64 a.root.n, .bool a.jumps] 27 (0, 0))
  have hB0 : Below w.heap.size w (w.alloc (.cells #[.slice A a.ids.length c, .bool a.root.cell, .int .i64 a.root.n, .bool a.jumps] 27 (0, 0))) := (Below.refl _ _).alloc (Nat.le_refl _) _
  have hav : arV A c a = .agg #[.slice A a.ids.length c, .bool a.root.cell, .int .i64 a.root.n, .bool a.jumps] := rfl
  rw [hav]
  have hck : Ar.checkOf a = if 8 < a.ids.length ∨ a.ids.any Ar.longType = true then 5 else if Ar.wrongBase a.root = true ∨ a.ids.any Ar.wrongType = true then 4 else 0 := rfl
  clear hA hav
  by_cases h8 : 8 < a.ids.length
  · have HQ : Hid (Ar.checkOf a = 5) := by rw [Hid, hck, if_pos (.inl h8)]
    have HB0 := Lib.hid hB0
    obtain ⟨e0, e1, e2, e3, -⟩ := cells4 ht0
    clear hck hB0 ht0
    go_enter Tryz.func23, Tryz.ntmps23
    go_wp2
    go_ret
    exact ⟨ret_int (by rw [HQ.out]; rfl), HB0.out⟩
  · obtain ⟨R1, hR1⟩ : ∃ R, a.ids.any Ar.longType = R := ⟨_, rfl⟩
    obtain ⟨R2, hR2⟩ : ∃ R, a.ids.any Ar.wrongType = R := ⟨_, rfl⟩
    obtain ⟨R3, hR3⟩ : ∃ R, Ar.wrongBase a.root = R := ⟨_, rfl⟩
    have HCK : Hid (Ar.checkOf a = if R1 = true then 5 else if R3 = true ∨ R2 = true then 4 else 0) := by
      rw [Hid, hck, hR1, hR2, hR3]
      by_cases h : R1 = true
      · rw [if_pos (.inr h), if_pos h]
      · rw [if_neg (fun e => e.elim h8 h), if_neg h]
    have HB := Lib.hid (fun W => refIsBase_any a.root W)
    rw [hR3] at HB
    unfold bsV at HB
    have HR1 := Lib.hid hR1; have HR2 := Lib.hid hR2
    have HT0 := Lib.hid ht0; have HB0 := Lib.hid hB0
    generalize Ar.checkOf a = er at *
    clear hck hR1 hR2 hR3 ht0 hB0
    obtain ⟨e0, e1, e2, e3, -⟩ := cells4 HT0.out
    go_enter Tryz.func23, Tryz.ntmps23
    go_wp2
    clear e0 e1 e2 e3
    go_loopw [3] (fun i wr => ∃ k : Nat, k ≤ a.ids.length ∧ i = .int .i64 k ∧ Hid (R1 = (a.ids.drop k).any Ar.longType) ∧ Below w.heap.size w wr ∧ Hid (wr.heap[w.heap.size]? = some (.cells #[.slice A a.ids.length c, .bool a.root.cell, .int .i64 a.root.n, .bool a.jumps] 27 (0, 0)))) (fun i _ => a.ids.length - (intOf i).toNat)
    case atStart => exact ⟨0, Nat.zero_le _, rfl, HR1.out.symm, HB0.out, HT0.out⟩
    case round =>
      obtain ⟨k, hk, rfl, hr, hB, hb⟩ := hrel
      obtain ⟨e0, e1, e2, e3, -⟩ := cells4 hb.out
      by_cases hlt : k < a.ids.length
      · obtain ⟨x, hx⟩ : ∃ x, a.ids[k]? = some x := ⟨_, List.getElem?_eq_getElem hlt⟩
        obtain ⟨b, off, hA, hbB, hc⟩ := (HT.out.below hB) (by intro e; rw [e] at hlt; simp at hlt)
        obtain ⟨c0, c1, c2, -⟩ := hc k x hx
        have hx5 := HP5.out x (List.mem_of_getElem? hx)
        have hr' := hr.out
        rw [Ar.drop_of_get hx, List.any_cons] at hr'
        generalize (P k).1 = PA at *
        generalize (P k).2 = pc at *
        clear hr hx hc
        subst hA
        by_cases hp : 5 < x.params.length
        · have HQ : Hid (er = 5) := by
            rw [show Ar.longType x = true from decide_eq_true hp, Bool.true_or] at hr'
            rw [Hid, HCK.out, if_pos hr']
          clear hr'
          go_wp2
          go_ret
          exact ⟨ret_int (by rw [HQ.out]; rfl), hB⟩
        · rw [show Ar.longType x = false from decide_eq_false hp, Bool.false_or] at hr'
          have HQ := Lib.hid hr'; clear hr'
          go_wp2
          go_roundw
          case rel => exact ⟨k + 1, by omega, by go_num, HQ.out, hB, hb.out⟩
          case measure => simp [intOf]; omega
      · obtain rfl : k = a.ids.length := by omega
        have hr' := hr.out
        rw [List.drop_length, List.any_nil] at hr'
        subst hr'
        clear hr HR1
        have HBr := Lib.hid hB; have HTr := Lib.hid hb.out
        clear hB hb
        go_wp2
        clear e0 e1 e2 e3
        go_loopw [4] (fun i wr => ∃ k : Nat, k ≤ a.ids.length ∧ i = .int .i64 k ∧ Hid (R2 = (a.ids.drop k).any Ar.wrongType) ∧ Below w.heap.size w wr ∧ Hid (wr.heap[w.heap.size]? = some (.cells #[.slice A a.ids.length c, .bool a.root.cell, .int .i64 a.root.n, .bool a.jumps] 27 (0, 0)))) (fun i _ => a.ids.length - (intOf i).toNat)
        case atStart => exact ⟨0, Nat.zero_le _, rfl, HR2.out.symm, HBr.out, HTr.out⟩
        case round =>
          obtain ⟨k, hk, rfl, hr, hB, hb⟩ := hrel
          obtain ⟨e0, e1, e2, e3, -⟩ := cells4 hb.out
          by_cases hlt : k < a.ids.length
          · obtain ⟨x, hx⟩ : ∃ x, a.ids[k]? = some x := ⟨_, List.getElem?_eq_getElem hlt⟩
            obtain ⟨b, off, hA, hbB, hc⟩ := (HT.out.below hB) (by intro e; rw [e] at hlt; simp at hlt)
            obtain ⟨c0, c1, c2, hbas⟩ := hc k x hx
            have hx5 := HP5.out x (List.mem_of_getElem? hx)
            have hr' := hr.out
            rw [Ar.drop_of_get hx, List.any_cons] at hr'
            have HP := Lib.hid (refIsType_any (P k).1 (P k).2 x wr hx5 (hbas.mono hB.size))
            unfold tyV at HP
            generalize (P k).1 = PA at *
            generalize (P k).2 = pc at *
            clear hr hx hc hbas
            subst hA
            cases hp : Ar.wrongType x
            · rw [hp] at hr' HP
              rw [Bool.false_or] at hr'
              rw [Bool.not_false] at HP
              have HQ := Lib.hid hr'; clear hr' hp
              go_wp2_with (go_at_call 56; refine HP.out.mono ?_; rintro e w2 ⟨rfl, hB2⟩; have hb2 := Lib.hid ((hB2.block _ (lt_of_heap hb.out)).trans hb.out))
              go_roundw
              case rel => exact ⟨k + 1, by omega, by go_num, HQ.out, hB.trans (hB2.mono hB.size), hb2.out⟩
              case measure => simp [intOf]; omega
            · rw [hp] at hr' HP
              rw [Bool.true_or] at hr'
              rw [Bool.not_true] at HP
              have HQ : Hid (er = 4) := by rw [Hid, HCK.out, if_neg Bool.false_ne_true, if_pos (.inr hr')]
              clear hr' hp
              go_wp2_with (go_at_call 56; refine HP.out.mono ?_; rintro e w2 ⟨rfl, hB2⟩; have hb2 := Lib.hid ((hB2.block _ (lt_of_heap hb.out)).trans hb.out))
              go_ret
              exact ⟨ret_int (by rw [HQ.out]; rfl), hB.trans (hB2.mono hB.size)⟩
          · obtain rfl : k = a.ids.length := by omega
            have hr' := hr.out
            rw [List.drop_length, List.any_nil] at hr'
            subst hr'
            clear hr
            cases R3
            · have HQ : Hid (er = 0) := by rw [Hid, HCK.out]; simp
              rw [Bool.not_false] at HB
              go_wp2_with (go_at_call 57; refine (HB.out _).mono ?_; rintro e w2 ⟨rfl, hB2⟩)
              go_ret
              exact ⟨ret_int (by rw [HQ.out]; rfl), hB.trans (hB2.mono hB.size)⟩
            · have HQ : Hid (er = 4) := by rw [Hid, HCK.out]; simp
              rw [Bool.not_true] at HB
              go_wp2_with (go_at_call 57; refine (HB.out _).mono ?_; rintro e w2 ⟨rfl, hB2⟩)
              go_ret
              exact ⟨ret_int (by rw [HQ.out]; rfl), hB.trans (hB2.mono hB.size)⟩

namespace Ar
/-- Not more than 12 identifiers with 8 params each. -/
def fatType (t : Ty) : Bool := decide (8 < t.params.length)
def thinOf (a : Are) : Bool := if 12 < a.ids.length then false else !(a.ids.any fatType)
theorem thin_bounds {a : Are} (h : thinOf a = true) : a.ids.length ≤ 12 ∧ ∀ t ∈ a.ids, t.params.length ≤ 8 := by
  unfold thinOf at h
  split at h
  · cases h
  · rename_i h1
    refine ⟨by omega, fun t ht => ?_⟩
    have h2 : a.ids.any fatType = false := by simpa using h
    rw [List.any_eq_false] at h2
    have := h2 t ht
    unfold fatType at this
    simp only [decide_eq_true_eq] at this
    omega
end Ar
set_option maxRecDepth 100000 in
set_option maxHeartbeats 4000000 in
theorem thin_any (a : Ar.Are) (A : Option Addr) (c : Nat) (P : Nat → Option Addr × Nat) (w : World) (hlen : a.ids.length ≤ maxLen) (hpar : ∀ t ∈ a.ids, t.params.length ≤ maxLen) (hT : Tys w w.heap.size A P a.ids) : Calls Tryz.prog 22 #[arV A c a] w fun e w' => e = .returned (.bool (Ar.thinOf a)) ∧ Below w.heap.size w w' := by
  unfold maxLen at hlen hpar
  have HT := Lib.hid hT
  have HP5 := Lib.hid hpar
  have ht0 := World.alloc_heap_new w (.cells #[.slice A a.ids.length c, .bool a.root.cell, .int .i64 a.root.n, .bool a.jumps] 27 (0, 0))
  have hB0 : Below w.heap.size w (w.alloc (.cells #[.slice A a.ids.length c, .bool a.root.cell, .int .i64 a.root.n, .bool a.jumps] 27 (0, 0))) := (Below.refl _ _).alloc (Nat.le_refl _) _
  have hav : arV A c a = .agg #[.slice A a.ids.length c, .bool a.root.cell, .int .i64 a.root.n, .bool a.jumps] := rfl
  rw [hav]
  have hck : Ar.thinOf a = if 12 < a.ids.length then false else !(a.ids.any Ar.fatType) := rfl
  clear hav hT hpar
  by_cases h8 : 12 < a.ids.length
  · have HQ : Hid (Ar.thinOf a = false) := by rw [Hid, hck, if_pos h8]
    have HB0 := Lib.hid hB0
    obtain ⟨e0, e1, e2, e3, -⟩ := cells4 ht0
    clear hck hB0 ht0
    go_enter Tryz.func22, Tryz.ntmps22
    go_wp2
    go_ret
    exact ⟨ret_bool (by rw [HQ.out]), HB0.out⟩
  · obtain ⟨R1, hR1⟩ : ∃ R, a.ids.any Ar.fatType = R := ⟨_, rfl⟩
    have HCK : Hid (Ar.thinOf a = !R1) := by rw [Hid, hck, hR1, if_neg h8]
    have HR1 := Lib.hid hR1
    have HT0 := Lib.hid ht0; have HB0 := Lib.hid hB0
    generalize Ar.thinOf a = er at *
    clear hck hR1 ht0 hB0
    obtain ⟨e0, e1, e2, e3, -⟩ := cells4 HT0.out
    go_enter Tryz.func22, Tryz.ntmps22
    go_wp2
    clear e0 e1 e2 e3
    go_loopw [3] (fun i wr => ∃ k : Nat, k ≤ a.ids.length ∧ i = .int .i64 k ∧ Hid (R1 = (a.ids.drop k).any Ar.fatType) ∧ Below w.heap.size w wr ∧ Hid (wr.heap[w.heap.size]? = some (.cells #[.slice A a.ids.length c, .bool a.root.cell, .int .i64 a.root.n, .bool a.jumps] 27 (0, 0)))) (fun i _ => a.ids.length - (intOf i).toNat)
    case atStart => exact ⟨0, Nat.zero_le _, rfl, HR1.out.symm, HB0.out, HT0.out⟩
    case round =>
      obtain ⟨k, hk, rfl, hr, hB, hb⟩ := hrel
      obtain ⟨e0, e1, e2, e3, -⟩ := cells4 hb.out
      by_cases hlt : k < a.ids.length
      · obtain ⟨x, hx⟩ : ∃ x, a.ids[k]? = some x := ⟨_, List.getElem?_eq_getElem hlt⟩
        obtain ⟨b, off, hA, hbB, hc⟩ := (HT.out.below hB) (by intro e; rw [e] at hlt; simp at hlt)
        obtain ⟨c0, c1, c2, -⟩ := hc k x hx
        have hx5 := HP5.out x (List.mem_of_getElem? hx)
        have hr' := hr.out
        rw [Ar.drop_of_get hx, List.any_cons] at hr'
        generalize (P k).1 = PA at *
        generalize (P k).2 = pc at *
        clear hr hx hc
        subst hA
        by_cases hp : 8 < x.params.length
        · have HQ : Hid (er = false) := by
            rw [show Ar.fatType x = true from decide_eq_true hp, Bool.true_or] at hr'
            rw [Hid, HCK.out, hr']; rfl
          clear hr'
          go_wp2
          go_ret
          exact ⟨ret_bool (by rw [HQ.out]), hB⟩
        · rw [show Ar.fatType x = false from decide_eq_false hp, Bool.false_or] at hr'
          have HQ := Lib.hid hr'; clear hr'
          go_wp2
          go_roundw
          case rel => exact ⟨k + 1, by omega, by go_num, HQ.out, hB, hb.out⟩
          case measure => simp [intOf]; omega
      · obtain rfl : k = a.ids.length := by omega
        have hr' := hr.out
        rw [List.drop_length, List.any_nil] at hr'
        have HQ : Hid (er = true) := by rw [Hid, HCK.out, hr']; rfl
        clear hr hr'
        go_wp2
        go_ret
        exact ⟨ret_bool (by rw [HQ.out]), hB⟩
end Go.Proofs.YtepdlghobopdbaaGreatDoor

namespace Go.Proofs.YtepdlghobopdbaaGreatDoor
open Go.RowKit Go.Shelf

section
variable {P : Program} (w : World)
/-- append of any slice, nil or not, to a row of our own, at a step of a region that draws. -/
theorem step_append_any {ops : Array Oper} {o : Oper} {a : Act} {K : Act → World → Prop} {Q : Exit → Act → World → Prop} {E : Prop} (hgd : o.guard = none) (s x : Operand) (t : TypeId)
    (ho : o.op = .call { callee := .builtin .append, args := #[s, x], argTypes := #[t, t] })
    (base : Nat) (e : TypeId) (i : TypeInfo) (z : Value) (size bytes : Nat) (ht : P.underlying t = some (.slice e)) (hi : P.info? e = some i) (hz : i.zero = some z)
    (hsize : i.size = size) (hby : i.bytes = bytes) (hzs : z.cells.size = size) (hsz : 0 < size)
    (v : Value) (n : Nat) (xs : List Value) (hs : a.eval s = v) (hown : w.ownsRow base e size v n xs)
    (A : Option Addr) (m c k : Nat) (hk : n + m = k) (news : List Value) (hx : a.eval x = .slice A m c) (hnil : A = none → c = 0 ∧ m = 0) (hl : news.length = m * size) (hnews : ∀ ad, A = some ad → ∀ j u, news[j]? = some u → w.cell? (ad.add j) = some u) (h1 : ∀ u ∈ news, u.oneCell' = true)
    (h63 : n + m ≤ maxLen) (hbytes : (n + m) * bytes ≤ 140737488355328) (hbase : base ≤ w.heap.size)
    (h : ∀ A' c' w', w'.ownsRow base e size (.slice A' k c') k (xs ++ news) → w.grownBy w' v.ownBlock → K (a.put o.dst (.slice A' k c')) w') :
    if Region.wanted o (yielded ops a.tmps) = true then Oper.wp P o a w K Q else E := by
  have hw : Region.wanted o (yielded ops a.tmps) = true := by simp [Region.wanted, hgd]
  rw [if_pos hw]
  subst hk
  cases A with
  | none =>
    obtain ⟨rfl, rfl⟩ := hnil rfl
    have hn0 : news = [] := List.length_eq_zero_iff.1 (by omega)
    subst hn0
    have hrun := run_append_owned_none (P := P) (w := w) base t o.type e i size ht hi v n xs hown
    have hform : ∃ A' c', v = .slice A' (n + 0) c' := by
      rcases hown.2 with ⟨rfl, rfl⟩ | ⟨g, cap, cur, rfl, _⟩
      · exact ⟨none, 0, rfl⟩
      · exact ⟨_, _, rfl⟩
    obtain ⟨A', c', hv⟩ := hform
    have h2 := h A' c' w (by rw [List.append_nil, ← hv]; exact hown) ⟨rfl, rfl, rfl, Nat.le_refl _, fun _ _ _ => rfl⟩
    unfold Oper.wp execOp
    simp only [ho, resolve, invoke, builtin, Sem.run_bind, Sem.run_pure, Result.andThen_ok, List.map_toArray, List.map_cons, List.map_nil, hs, hx, hrun]
    rw [hv]
    exact h2
  | some ad =>
    obtain ⟨v', w', hrun, h2, h3, _, h5⟩ := run_append_own_at (P := P) w base t o.type e i z size bytes ht hi hz hsize hby hzs hsz v n xs hown ad m c news hl (hnews ad rfl) h1 h63 hbytes hbase
    have hform : ∃ A' c', v' = .slice A' (n + m) c' := by
      rcases h2.2 with ⟨hv, h0⟩ | ⟨g, cap, cur, hv, _⟩
      · exact ⟨none, 0, by rw [hv, h0]⟩
      · exact ⟨_, _, hv⟩
    obtain ⟨A', c', rfl⟩ := hform
    unfold Oper.wp execOp
    simp only [ho, resolve, invoke, builtin, Sem.run_bind, Sem.run_pure, Result.andThen_ok, List.map_toArray, List.map_cons, List.map_nil, hs, hx, hrun]
    exact h A' c' w' h2 h3
end

/-- Base types that lie in a block of base types, not below n₀. -/
def BasO (W : World) (n₀ : Nat) (A : Option Addr) (l : List Ar.Bs) : Prop := l ≠ [] → ∃ b cs, A = some ⟨b, 0, none⟩ ∧ n₀ ≤ b ∧ W.heap[b]? = some (.cells cs 25 (0, 0)) ∧
  ∀ i x, l[i]? = some x → cs[i * 2]? = some (.bool x.cell) ∧ cs[i * 2 + 1]? = some (.int .i64 x.n)
theorem BasO.bas {W : World} {n₀ : Nat} {A : Option Addr} {l : List Ar.Bs} (h : BasO W n₀ A l) : Bas W W.heap.size A l := fun hne => by
  obtain ⟨b, cs, rfl, _, hb, hc⟩ := h hne
  refine ⟨b, 0, rfl, lt_of_heap hb, fun i x hx => ?_⟩
  obtain ⟨h1, h2⟩ := hc i x hx
  exact ⟨by simp [World.cell?, hb, h1], by simp [World.cell?, hb, h2]⟩
/-- Blocks of base types from n₀ on stay. -/
def KB (n₀ : Nat) (W W' : World) : Prop := ∀ b cs, n₀ ≤ b → W.heap[b]? = some (.cells cs 25 (0, 0)) → W'.heap[b]? = some (.cells cs 25 (0, 0))
theorem BasO.keep {W W' : World} {n₀ : Nat} {A : Option Addr} {l : List Ar.Bs} (h : BasO W n₀ A l) (hk : KB n₀ W W') : BasO W' n₀ A l := fun hne => by
  obtain ⟨b, cs, hA, h0, hb, hc⟩ := h hne
  exact ⟨b, cs, hA, h0, hk b cs h0 hb, hc⟩
theorem BasO.mono {W : World} {n₀ n₁ : Nat} {A : Option Addr} {l : List Ar.Bs} (h : BasO W n₀ A l) (hn : n₁ ≤ n₀) : BasO W n₁ A l := fun hne => by
  obtain ⟨b, cs, hA, h0, hb, hc⟩ := h hne
  exact ⟨b, cs, hA, Nat.le_trans hn h0, hb, hc⟩
theorem KB.trans {n₀ : Nat} {A B C : World} (h : KB n₀ A B) (k : KB n₀ B C) : KB n₀ A C := fun b cs h0 hb => k b cs h0 (h b cs h0 hb)
theorem KB.below {n₀ : Nat} {A B : World} (h : Below A.heap.size A B) : KB n₀ A B := fun _ _ _ hb => (h.block _ (lt_of_heap hb)).trans hb
theorem KB.set {n₀ : Nat} {W : World} {b j : Nat} (v : Value) (hb : b < n₀) : KB n₀ W (W.setCell ⟨b, j, none⟩ v) := fun k _ h0 hk => (Below.heap_setCell _ _ _ _ (by simp; omega)).trans hk
theorem KB.grown {n₀ base : Nat} {W W' : World} {e : TypeId} {size n : Nat} {v : Value} {xs : List Value} (hown : W.ownsRow base e size v n xs) (hg : W.grownBy W' v.ownBlock) (he : e ≠ 25) : KB n₀ W W' := fun b cs _ hb => by
  refine (hg.block b (lt_of_heap hb) (fun e1 => ?_)).trans hb
  obtain ⟨cs', h'⟩ := own_block_cells hown e1.symm
  rw [h'] at hb
  simp only [Option.some.injEq, Obj.cells.injEq] at hb
  exact he hb.2.1

def bsCells (b : Ar.Bs) : List Value := [.bool b.cell, .int .i64 b.n]
theorem bsCells_len (l : List Ar.Bs) : (l.flatMap bsCells).length = l.length * 2 := by
  induction l with
  | nil => rfl
  | cons x l ih => rw [List.flatMap_cons, List.length_append, ih, List.length_cons]; show 2 + _ = _; omega
theorem bsCells_one (l : List Ar.Bs) : ∀ u ∈ l.flatMap bsCells, u.oneCell' = true := fun u hu => by
  obtain ⟨x, _, hx⟩ := List.mem_flatMap.1 hu
  simp only [bsCells, List.mem_cons, List.not_mem_nil, or_false] at hx
  rcases hx with rfl | rfl <;> rfl
theorem bsCells_at {W : World} {B : Nat} {A : Option Addr} {l : List Ar.Bs} (h : Bas W B A l) : ∀ ad, A = some ad → ∀ j u, (l.flatMap bsCells)[j]? = some u → W.cell? (ad.add j) = some u := fun ad hA j u hu => by
  have hj : j < l.length * 2 := by have := (List.getElem?_eq_some_iff.1 hu).1; rw [bsCells_len] at this; exact this
  have hne : l ≠ [] := by intro e; subst e; simp at hj
  obtain ⟨b, off, hA', _, hc⟩ := h hne
  rw [hA'] at hA
  cases hA
  have hlt : j / 2 < l.length := by omega
  obtain ⟨x, hx⟩ : ∃ x, l[j / 2]? = some x := ⟨_, List.getElem?_eq_getElem hlt⟩
  obtain ⟨c0, c1⟩ := hc _ x hx
  rw [show (⟨b, off, none⟩ : Addr).add j = ⟨b, off + j, none⟩ by unfold Addr.add; split <;> simp_all]
  have hf := flat_get (f := bsCells) (s := 2) (fun _ => rfl) l (j / 2) x hx (j % 2) (by omega)
  rw [show j / 2 * 2 + j % 2 = j by omega, hu] at hf
  rcases Nat.mod_two_eq_zero_or_one j with h2 | h2
  · rw [h2] at hf
    rw [show off + j / 2 * 2 = off + j by omega] at c0
    rw [c0]; exact hf.symm
  · rw [h2] at hf
    rw [show off + j / 2 * 2 + 1 = off + j by omega] at c1
    rw [c1]; exact hf.symm
theorem basO_of_own {W : World} {n₀ c k : Nat} {A : Option Addr} {l : List Ar.Bs} (h : W.ownsRow n₀ 25 2 (.slice A k c) l.length (l.flatMap bsCells)) : BasO W n₀ A l := fun hne => by
  have hn : 0 < l.length := List.length_pos_iff.2 hne
  rcases h.2 with ⟨_, h0⟩ | ⟨g, cap, cur, hv, hb, hg, _, _, _, hx⟩
  · omega
  · cases hv
    refine ⟨g, cur, rfl, hb, hg, fun i x hi => ?_⟩
    have hlt := (List.getElem?_eq_some_iff.1 hi).1
    have f0 := flat_get (f := bsCells) (s := 2) (fun _ => rfl) l i x hi 0 (by omega)
    have f1 := flat_get (f := bsCells) (s := 2) (fun _ => rfl) l i x hi 1 (by omega)
    rw [← hx, List.getElem?_take_of_lt (by omega)] at f0 f1
    exact ⟨by simpa [bsCells] using f0, by simpa [bsCells] using f1⟩
theorem nilB_of_own {W : World} {n₀ c k n size : Nat} {e : TypeId} {A : Option Addr} {α : Type} {l : List α} {xs : List Value} (h : W.ownsRow n₀ e size (.slice A k c) n xs) (hl : n = l.length) : A = none → c = 0 ∧ l = [] := fun hA => by
  subst hA
  rcases h.2 with ⟨hv, h0⟩ | ⟨g, cap, cur, hv, _⟩
  · cases hv
    exact ⟨rfl, List.length_eq_zero_iff.1 (by omega)⟩
  · cases hv

theorem frz {W : World} {b : Nat} {cs : Array Value} {t : TypeId} (h : W.heap[b]? = some (.cells cs t (0, 0))) (j : Nat) : W.frozen? ⟨b, j, none⟩ = false := by simp [World.frozen?, h]
theorem infoBase : (Tryz.prog.info? 25).map (fun i => (i.zero, i.size, i.bytes)) = some (some (.agg #[.bool false, .int .i64 0]), 2, 16) := by kernel_rfl
/-- The blocks of a call of CopyType. -/
def CT (w : World) (PA : Option Addr) (pc : Nat) (t : Ar.Ty) (W : World) : Prop := Below w.heap.size w W ∧ W.cell? ⟨w.heap.size, 0, none⟩ = some (.slice PA t.params.length pc) ∧ W.cell? ⟨w.heap.size, 1, none⟩ = some (.bool t.result.cell) ∧ W.cell? ⟨w.heap.size, 2, none⟩ = some (.int .i64 t.result.n) ∧
  W.cell? ⟨w.heap.size + 1, 0, none⟩ = some (cv ⟨w.heap.size + 1, 0, none⟩ W) ∧ W.cell? ⟨w.heap.size + 1, 1, none⟩ = some (cv ⟨w.heap.size + 1, 1, none⟩ W) ∧ W.cell? ⟨w.heap.size + 1, 2, none⟩ = some (cv ⟨w.heap.size + 1, 2, none⟩ W) ∧ W.frozen? ⟨w.heap.size + 1, 0, none⟩ = false ∧ W.frozen? ⟨w.heap.size + 1, 1, none⟩ = false ∧ W.frozen? ⟨w.heap.size + 1, 2, none⟩ = false
theorem CT.next {w W W' : World} {PA : Option Addr} {pc : Nat} {t : Ar.Ty} (h : CT w PA pc t W) (hB : Below W.heap.size W W') : CT w PA pc t W' := by
  obtain ⟨h0, a0, a1, a2, b0, b1, b2, f0, f1, f2⟩ := h
  exact ⟨h0.trans (hB.mono h0.size), keep_cell hB a0, keep_cell hB a1, keep_cell hB a2, cv_of (keep_cell hB b0), cv_of (keep_cell hB b1), cv_of (keep_cell hB b2), keep_frozen hB b0 f0, keep_frozen hB b1 f1, keep_frozen hB b2 f2⟩
theorem CT.grown {w W W' : World} {PA : Option Addr} {pc g : Nat} {t : Ar.Ty} (h : CT w PA pc t W) (hg : W.grownBy W' (some g)) (hlt : w.heap.size + 1 < g) : CT w PA pc t W' := by
  obtain ⟨h0, a0, a1, a2, b0, b1, b2, f0, f1, f2⟩ := h
  have hc : ∀ {b o : Nat} {v : Value}, b ≤ w.heap.size + 1 → W.cell? ⟨b, o, none⟩ = some v → W'.cell? ⟨b, o, none⟩ = some v := fun {b o v} hb h => hg.cell h (by simp; omega)
  have hf : ∀ {b o : Nat} {v : Value}, b ≤ w.heap.size + 1 → W.cell? ⟨b, o, none⟩ = some v → W.frozen? ⟨b, o, none⟩ = false → W'.frozen? ⟨b, o, none⟩ = false := fun {b o v} hb h hz => (World.frozen?_of_block (hg.block b (block_of_cell h) (by simp; omega))).trans hz
  exact ⟨h0.grown hg h0.size (fun j e => by cases e; omega), hc (by omega) a0, hc (by omega) a1, hc (by omega) a2, cv_of (hc (by omega) b0), cv_of (hc (by omega) b1), cv_of (hc (by omega) b2), hf (by omega) b0 f0, hf (by omega) b1 f1, hf (by omega) b2 f2⟩
theorem CT.set {w W : World} {PA : Option Addr} {pc : Nat} {t : Ar.Ty} {v0 v1 v2 : Value} (h : CT w PA pc t W) : CT w PA pc t (((W.setCell ⟨w.heap.size + 1, 0, none⟩ v0).setCell ⟨w.heap.size + 1, 1, none⟩ v1).setCell ⟨w.heap.size + 1, 2, none⟩ v2) := by
  obtain ⟨hB, a0, a1, a2, b0, b1, b2, f0, f1, f2⟩ := h
  have e3 : ∀ q v, W.cell? ⟨w.heap.size + 1, q, none⟩ = some v → ∃ x, (((W.setCell ⟨w.heap.size + 1, 0, none⟩ v0).setCell ⟨w.heap.size + 1, 1, none⟩ v1).setCell ⟨w.heap.size + 1, 2, none⟩ v2).cell? ⟨w.heap.size + 1, q, none⟩ = some x := fun q v hq => by
    obtain ⟨_, h1⟩ := cv_set (p := ⟨w.heap.size + 1, 0, none⟩) (u := v0) hq
    obtain ⟨_, h2⟩ := cv_set (p := ⟨w.heap.size + 1, 1, none⟩) (u := v1) h1
    exact cv_set (p := ⟨w.heap.size + 1, 2, none⟩) (u := v2) h2
  have ks : ∀ (o : Nat) v, W.cell? ⟨w.heap.size, o, none⟩ = some v → (((W.setCell ⟨w.heap.size + 1, 0, none⟩ v0).setCell ⟨w.heap.size + 1, 1, none⟩ v1).setCell ⟨w.heap.size + 1, 2, none⟩ v2).cell? ⟨w.heap.size, o, none⟩ = some v := fun o v h => keep_set (by simp) (keep_set (by simp) (keep_set (by simp) h))
  have fz : ∀ (a : Addr), W.frozen? a = false → (((W.setCell ⟨w.heap.size + 1, 0, none⟩ v0).setCell ⟨w.heap.size + 1, 1, none⟩ v1).setCell ⟨w.heap.size + 1, 2, none⟩ v2).frozen? a = false := fun a h => by rw [World.frozen?_setCell, World.frozen?_setCell, World.frozen?_setCell]; exact h
  refine ⟨((hB.setCell (p := ⟨w.heap.size + 1, 0, none⟩) (by simp) _).setCell (p := ⟨w.heap.size + 1, 1, none⟩) (by simp) _).setCell (p := ⟨w.heap.size + 1, 2, none⟩) (by simp) _, ks _ _ a0, ks _ _ a1, ks _ _ a2, ?_, ?_, ?_, fz _ f0, fz _ f1, fz _ f2⟩
  · obtain ⟨x, hx⟩ := e3 0 _ b0; exact cv_of hx
  · obtain ⟨x, hx⟩ := e3 1 _ b1; exact cv_of hx
  · obtain ⟨x, hx⟩ := e3 2 _ b2; exact cv_of hx

set_option maxRecDepth 100000 in
set_option maxHeartbeats 4000000 in
theorem copyType_any (PA : Option Addr) (pc : Nat) (t : Ar.Ty) (w : World) (h5 : t.params.length ≤ 1000000) (hT : Bas w w.heap.size PA t.params) (hN : PA = none → pc = 0 ∧ t.params = []) :
    Calls Tryz.prog 62 #[tyV PA pc t] w fun e w' => ∃ A' c', e = .returned (tyV A' c' t) ∧ BasO w' w.heap.size A' t.params ∧ (A' = none → c' = 0 ∧ t.params = []) ∧ Below w.heap.size w w' := by
  obtain ⟨i0, hi, hz0, hz1, hz2⟩ := info_parts infoBase
  have hB0 := below_two (w := w) (tyO PA pc t) (.cells #[.slice none 0 0, .bool false, .int .i64 0] 53 (0, 0))
  have h1 := two_new1 w (tyO PA pc t) (.cells #[.slice none 0 0, .bool false, .int .i64 0] 53 (0, 0))
  have h2 := two_new2 w (tyO PA pc t) (.cells #[.slice none 0 0, .bool false, .int .i64 0] 53 (0, 0))
  have hTB := Lib.hid (fun W (hB : Below w.heap.size w W) => bsCells_at (hT.below hB))
  have HN : Hid (PA = none → pc = 0 ∧ t.params.length = 0) := fun e => by
    obtain ⟨h1, h2⟩ := hN e
    exact ⟨h1, by rw [h2]; rfl⟩
  have hsz0 : w.heap.size + 2 = ((w.alloc (tyO PA pc t)).alloc (.cells #[.slice none 0 0, .bool false, .int .i64 0] 53 (0, 0))).heap.size := by simp
  unfold tyV
  unfold tyO at h1 h2 hB0 hsz0
  obtain ⟨a0, a1, a2⟩ := cells3 h1
  obtain ⟨b0, b1, b2⟩ := cells3 h2
  have hS0 : CT w PA pc t ((w.alloc (.cells #[.slice PA t.params.length pc, .bool t.result.cell, .int .i64 t.result.n] 53 (0, 0))).alloc (.cells #[.slice none 0 0, .bool false, .int .i64 0] 53 (0, 0))).drew := ⟨hB0.drew, a0, a1, a2, cv_of b0, cv_of b1, cv_of b2, frz h2 0, frz h2 1, frz h2 2⟩
  have HS0 := Lib.hid hS0
  have HSZ := Lib.hid hsz0
  clear hS0 hsz0 a0 a1 a2 b0 b1 b2 h1 h2 hB0 hT hN
  go_enter Tryz.func62, Tryz.ntmps62
  go_wp2
  generalize ((w.alloc (.cells #[.slice PA t.params.length pc, .bool t.result.cell, .int .i64 t.result.n] 53 (0, 0))).alloc (.cells #[.slice none 0 0, .bool false, .int .i64 0] 53 (0, 0))) = W0 at *
  go_region_held3 (fun w' => Below w.heap.size w w' ∧ w'.cell? ⟨w.heap.size, 0, none⟩ = some (.slice PA t.params.length pc) ∧ w'.cell? ⟨w.heap.size, 1, none⟩ = some (.bool t.result.cell) ∧ w'.cell? ⟨w.heap.size, 2, none⟩ = some (.int .i64 t.result.n) ∧
      w'.cell? ⟨w.heap.size + 1, 0, none⟩ = some (cv ⟨w.heap.size + 1, 0, none⟩ w') ∧ w'.cell? ⟨w.heap.size + 1, 1, none⟩ = some (cv ⟨w.heap.size + 1, 1, none⟩ w') ∧ w'.cell? ⟨w.heap.size + 1, 2, none⟩ = some (cv ⟨w.heap.size + 1, 2, none⟩ w') ∧ w'.frozen? ⟨w.heap.size + 1, 0, none⟩ = false ∧ w'.frozen? ⟨w.heap.size + 1, 1, none⟩ = false ∧ w'.frozen? ⟨w.heap.size + 1, 2, none⟩ = false)
    (first
      | exact HS0.out
      | assumption
      | exact CT.next (by assumption) ((Below.refl _ _).alloc (Nat.le_refl _) _)
      | exact CT.set (by assumption)
      | go_keep)
    ((refine step_append_any _ (by rfl) _ _ _ (by rfl) (w.heap.size + 2) 25 i0 _ 2 16 Tryz.underlying51 hi hz0 hz1 hz2 rfl (by omega) (.slice (some ⟨W0.heap.size, 0, none⟩) 0 0) 0 [] (by rfl) (World.ownsRow_lit W0 #[] 0 (Nat.le_of_eq HSZ.out) (Nat.zero_le _) rfl) PA t.params.length pc t.params.length (Nat.zero_add _) (t.params.flatMap bsCells) (by rfl) HN.out (bsCells_len _) (hTB.out _ (SI_below (by assumption))) (bsCells_one _) (by unfold maxLen; omega) (by omega) (by have hz : w.heap.size + 2 = W0.heap.size := HSZ.out; simp; omega) ?_; intro A9 c9 w9 hown9 hgrow; have hS9 : CT w PA pc t w9 := CT.grown (g := W0.heap.size) (by assumption) hgrow (by have hz : w.heap.size + 2 = W0.heap.size := HSZ.out; omega)))
  all_goals go_wp2
  all_goals
    obtain ⟨hB9, -, -, -, r0, r1, r2, -, -, -⟩ := hS9
    rw [List.nil_append] at hown9
    have hOW := own_set (j := 2) (u := .int .i64 t.result.n) (own_set (j := 1) (u := .bool t.result.cell) (own_set (j := 0) (u := .slice A9 t.params.length c9) hown9 (show w.heap.size + 1 < w.heap.size + 2 by omega)) (show w.heap.size + 1 < w.heap.size + 2 by omega)) (show w.heap.size + 1 < w.heap.size + 2 by omega)
    refine bodyPost_ret (v := .agg #[.slice A9 t.params.length c9, .bool t.result.cell, .int .i64 t.result.n]) (by simp [results, Tryz.results62, go_sem, World.cell?_setCell_same', r0, r1, r2]) rfl ⟨A9, c9, rfl, (basO_of_own hOW).mono (by omega), nilB_of_own hOW rfl, ?_⟩
    exact ((hB9.setCell (p := ⟨w.heap.size + 1, 0, none⟩) (by simp) _).setCell (p := ⟨w.heap.size + 1, 1, none⟩) (by simp) _).setCell (p := ⟨w.heap.size + 1, 2, none⟩) (by simp) _
end Go.Proofs.YtepdlghobopdbaaGreatDoor

namespace Go.Proofs.YtepdlghobopdbaaGreatDoor
open Go.RowKit Go.Shelf

/-- A type, with where its params lie. -/
abbrev Pt := Ar.Ty × (Option Addr × Nat)
def ptCells (x : Pt) : List Value := [.slice x.2.1 x.1.params.length x.2.2, .bool x.1.result.cell, .int .i64 x.1.result.n]
/-- Where the i-th type's params lie. -/
def ptP (l : List Pt) (i : Nat) : Option Addr × Nat := match l[i]? with | some x => x.2 | none => (none, 0)
theorem ptP_get {l : List Pt} {i : Nat} {x : Pt} (h : l[i]? = some x) : ptP l i = x.2 := by unfold ptP; rw [h]
theorem ptCells_len (x : Pt) : (ptCells x).length = 3 := rfl
theorem ptCells_one (x : Pt) : ∀ u ∈ ptCells x, u.oneCell' = true := fun u hu => by
  simp only [ptCells, List.mem_cons, List.not_mem_nil, or_false] at hu
  rcases hu with rfl | rfl | rfl <;> rfl
/-- A type whose params lie in memory of our own. -/
def PtO (W : World) (n₀ : Nat) (x : Pt) : Prop := BasO W n₀ x.2.1 x.1.params ∧ (x.2.1 = none → x.2.2 = 0 ∧ x.1.params = [])
theorem PtO.keep {W W' : World} {n₀ : Nat} {x : Pt} (h : PtO W n₀ x) (hk : KB n₀ W W') : PtO W' n₀ x := ⟨h.1.keep hk, h.2⟩
/-- An arena in memory of our own. -/
structure ArO (W : World) (n₀ : Nat) (A : Option Addr) (c : Nat) (P : Nat → Option Addr × Nat) (a : Ar.Are) : Prop where
  m : ArM W A P a
  nil : A = none → c = 0 ∧ a.ids = []
  nils : ∀ i t, a.ids[i]? = some t → (P i).1 = none → (P i).2 = 0 ∧ t.params = []
theorem arO_of_row {W : World} {n₀ n₁ c k : Nat} {A : Option Addr} {L : List Pt} {a : Ar.Are} (hL : L.map Prod.fst = a.ids) (hrow : W.ownsRow n₀ 53 3 (.slice A k c) L.length (L.flatMap ptCells)) (hp : ∀ x ∈ L, PtO W n₁ x)
    (h1 : a.ids.length ≤ 1000000) (h2 : ∀ t ∈ a.ids, t.params.length ≤ 1000000) : ArO W n₀ A c (ptP L) a := by
  have hlen : L.length = a.ids.length := by rw [← hL, List.length_map]
  have hg : ∀ i t, a.ids[i]? = some t → ∃ x : Pt, L[i]? = some x ∧ x.1 = t := fun i t h => by
    rw [← hL, List.getElem?_map] at h
    exact Option.map_eq_some_iff.1 h
  refine ⟨⟨h1, h2, fun hne => ?_⟩, fun hA => ?_, fun i t ht => ?_⟩
  · have hn : 0 < L.length := by rw [hlen]; exact List.length_pos_iff.2 hne
    rcases hrow.2 with ⟨_, h0⟩ | ⟨g, cap, cur, hv, hb, hg', _, _, _, hx⟩
    · omega
    · cases hv
      refine ⟨g, 0, rfl, lt_of_heap hg', fun i t ht => ?_⟩
      obtain ⟨x, hx', rfl⟩ := hg i t ht
      rw [ptP_get hx']
      have hi := (List.getElem?_eq_some_iff.1 hx').1
      have hc : ∀ j, j < 3 → W.cell? ⟨g, 0 + i * 3 + j, none⟩ = (ptCells x)[j]? := fun j hj => by
        have hf := flat_get (f := ptCells) (s := 3) ptCells_len L i x hx' j hj
        rw [← hx, List.getElem?_take_of_lt (by omega)] at hf
        rw [← hf, Nat.zero_add]
        simp [World.cell?, hg']
      exact ⟨hc 0 (by omega), hc 1 (by omega), hc 2 (by omega), (hp x (List.mem_of_getElem? hx')).1.bas⟩
  · obtain ⟨h3, h4⟩ := nilB_of_own (l := a.ids) hrow hlen hA
    exact ⟨h3, h4⟩
  · obtain ⟨x, hx', rfl⟩ := hg i t ht
    rw [ptP_get hx']
    exact (hp x (List.mem_of_getElem? hx')).2

theorem cv_is {W : World} {a : Addr} {v : Value} (h : W.cell? a = some v) : cv a W = v := by unfold cv; rw [h]; rfl
theorem own_cv {W : World} {base : Nat} {e : TypeId} {size : Nat} {v v' : Value} {n : Nat} {xs : List Value} (h : v = v') (hr : W.ownsRow base e size v' n xs) : W.ownsRow base e size v n xs := by rw [h]; exact hr
/-- A block of another row than the one that has grown is as it was. -/
theorem grown_far {W W' : World} {base : Nat} {e : TypeId} {size n : Nat} {v : Value} {xs : List Value} {b : Nat} {o : Obj} (hown : W.ownsRow base e size v n xs) (hg : W.grownBy W' v.ownBlock) (hb : W.heap[b]? = some o) (hlt : b < base) : W'.heap[b]? = some o :=
  (hg.block b (lt_of_heap hb) (fun e => by have := own_low hown e.symm; omega)).trans hb
theorem three_blocks (w : World) (o1 o2 o3 : Obj) : Below w.heap.size w (((w.alloc o1).alloc o2).alloc o3) ∧ (((w.alloc o1).alloc o2).alloc o3).heap[w.heap.size]? = some o1 ∧ (((w.alloc o1).alloc o2).alloc o3).heap[w.heap.size + 1]? = some o2 ∧ (((w.alloc o1).alloc o2).alloc o3).heap[w.heap.size + 1 + 1]? = some o3 ∧ (((w.alloc o1).alloc o2).alloc o3).heap.size = w.heap.size + 1 + 1 + 1 := by
  obtain ⟨h1, h2, h3⟩ := three_newX w o1 o2 o3
  exact ⟨(below_two _ _).alloc (by rw [size_alloc, size_alloc]; omega) _, h1, h2, h3, by rw [size_alloc, size_alloc, size_alloc]⟩

set_option maxRecDepth 100000 in
set_option maxHeartbeats 8000000 in
theorem copy_any (a : Ar.Are) (A : Option Addr) (c : Nat) (P : Nat → Option Addr × Nat) (w : World) (hA : ArM w A P a) (hN : ∀ i t, a.ids[i]? = some t → (P i).1 = none → (P i).2 = 0 ∧ t.params = []) :
    Calls Tryz.prog 25 #[arV A c a] w fun e w' => ∃ A' c' P', e = .returned (arV A' c' a) ∧ ArO w' w.heap.size A' c' P' a ∧ Below w.heap.size w w' := by
  obtain ⟨i0, hi, hz0, hz1, hz2⟩ := info_parts infoTy
  have hlen := hA.len
  have HPAR := Lib.hid hA.par
  have HT := Lib.hid hA.tys
  have HN := Lib.hid hN
  have hav : arV A c a = .agg #[.slice A a.ids.length c, .bool a.root.cell, .int .i64 a.root.n, .bool a.jumps] := rfl
  rw [hav]
  obtain ⟨hB0, h1, h2, h3, hs⟩ := three_blocks w (.cells #[.slice A a.ids.length c, .bool a.root.cell, .int .i64 a.root.n, .bool a.jumps] 27 (0, 0)) (.cells #[.slice none 0 0, .bool false, .int .i64 0, .bool false] 27 (0, 0)) (.cells #[.slice none 0 0, .bool a.root.cell, .int .i64 a.root.n, .bool a.jumps] 27 (0, 0))
  have H1 := Lib.hid h1; have H2 := Lib.hid h2; have H3 := Lib.hid h3; have HB0 := Lib.hid hB0; have HS := Lib.hid hs
  clear hA hN hav h1 h2 h3 hB0 hs
  go_enter Tryz.func25, Tryz.ntmps25
  go_wp2
  generalize ((w.alloc (.cells #[.slice A a.ids.length c, .bool a.root.cell, .int .i64 a.root.n, .bool a.jumps] 27 (0, 0))).alloc (.cells #[.slice none 0 0, .bool false, .int .i64 0, .bool false] 27 (0, 0))).alloc (.cells #[.slice none 0 0, .bool a.root.cell, .int .i64 a.root.n, .bool a.jumps] 27 (0, 0)) = W0 at *
  go_loopw [4] (fun i wr => ∃ (k : Nat) (L : List Pt) (A9 : Option Addr) (c9 : Nat), k ≤ a.ids.length ∧ i = .int .i64 k ∧ Hid (L.map Prod.fst = a.ids.take k) ∧ Hid (L.length = k) ∧ Hid (wr.ownsRow (w.heap.size + 3) 53 3 (.slice A9 k c9) k (L.flatMap ptCells)) ∧ Hid (∀ x ∈ L, PtO wr (w.heap.size + 3) x) ∧ Hid (Below w.heap.size w wr) ∧
      Hid (wr.heap[w.heap.size]? = some (.cells #[.slice A a.ids.length c, .bool a.root.cell, .int .i64 a.root.n, .bool a.jumps] 27 (0, 0))) ∧ Hid (wr.heap[w.heap.size + 1]? = some (.cells #[.slice none 0 0, .bool false, .int .i64 0, .bool false] 27 (0, 0))) ∧ Hid (wr.heap[w.heap.size + 1 + 1]? = some (.cells #[.slice A9 k c9, .bool a.root.cell, .int .i64 a.root.n, .bool a.jumps] 27 (0, 0)))) (fun i _ => a.ids.length - (intOf i).toNat)
  case atStart => exact ⟨0, [], none, 0, Nat.zero_le _, rfl, rfl, rfl, World.ownsRow_nil _ _ _ _, (fun x hx => by cases hx), HB0.out, H1.out, H2.out, H3.out⟩
  case round =>
    obtain ⟨k, L, A9, c9, hk, rfl, hL, hLk, hrow, hpt, hB, hb1, hb2, hb3⟩ := hrel
    obtain ⟨e0, e1, e2, e3, -⟩ := cells4 hb1.out
    by_cases hlt : k < a.ids.length
    · obtain ⟨t, ht⟩ : ∃ t, a.ids[k]? = some t := ⟨_, List.getElem?_eq_getElem hlt⟩
      obtain ⟨b, off, hA, hbB, hc⟩ := HT.out (by intro e; rw [e] at hlt; simp at hlt)
      obtain ⟨c0', c1', c2', hbas⟩ := hc k t ht
      have c0 := (hB.out.cell (p := ⟨b, off + k * 3, none⟩) hbB).trans c0'
      have c1 := (hB.out.cell (p := ⟨b, off + k * 3 + 1, none⟩) hbB).trans c1'
      have c2 := (hB.out.cell (p := ⟨b, off + k * 3 + 2, none⟩) hbB).trans c2'
      have ht5 := HPAR.out t (List.mem_of_getElem? ht)
      have hnil := HN.out k t ht
      have HTT := Lib.hid ht
      generalize (P k).1 = PA at *
      generalize (P k).2 = pc at *
      have HC := Lib.hid (fun W (hBW : Below w.heap.size w W) => copyType_any PA pc t W ht5 ((hbas.below hBW).mono hBW.size) hnil)
      obtain ⟨d0, d1, d2, d3, f0, -⟩ := cells4 hb3.out
      have hszr : w.heap.size + 3 ≤ wr.heap.size := by have := lt_of_heap hb3.out; omega
      have HSZ := Lib.hid hszr
      have n1 : b ≠ w.heap.size + 1 + 1 := by omega
      clear hc hbas ht hnil c0' c1' c2' hszr
      subst hA
      unfold tyV at HC
      have hq0 : (0 : Int) ≤ (k : Int) := by omega
      have hq1 : (k : Int) < (a.ids.length : Int) := by omega
      go_wp2
      go_region_law (first
          | (go_simp; go_at_call 62; refine (HC.out _ hB.out.drew).mono ?_; rintro e w4 ⟨A', c', rfl, hbo, hnl, hB4⟩; have hr4 := Lib.hid (own_ext (A := wr.drew) hrow.out (Ext.of_below hB4 (Nat.le_refl _))); have hbo4 := Lib.hid hbo; have hnl4 := Lib.hid hnl; clear hbo hnl; have hk3 := Lib.hid ((hB4.block _ (lt_of_heap hb3.out)).trans hb3.out); obtain ⟨x0, x1, x2, x3, xf, -, -, -⟩ := cells4 hk3.out; have hk5 := Lib.hid ((Below.heap_alloc w4 (.cells #[.slice A' t.params.length c', .bool t.result.cell, .int .i64 t.result.n] 53 (0, 0)) _ (lt_of_heap hk3.out)).trans hk3.out); obtain ⟨v0, v1, v2, v3, vf, -, -, -⟩ := cells4 hk5.out)
          | (refine step_append_any _ (by rfl) _ _ _ (by rfl) (w.heap.size + 3) 53 i0 _ 3 40 Tryz.underlying23 hi hz0 hz1 hz2 rfl (by omega) (.slice A9 k c9) k (L.flatMap ptCells) (by rfl) (hr4.out.alloc _) (some ⟨w4.heap.size, 0, none⟩) 1 1 (k + 1) rfl (ptCells (t, (A', c'))) (by rfl) (fun h => by cases h) rfl (fun ad had j u hu => by cases had; exact World.news_of_block (cs := (ptCells (t, (A', c'))).toArray) (t := 53) (fr := (0, 0)) (World.alloc_heap_new w4 _) j u hu) (ptCells_one _) (by unfold maxLen; omega) (by omega) (Nat.le_trans HSZ.out (Nat.le_trans hB4.size (by rw [size_alloc]; exact Nat.le_succ _))) ?_; intro A8 c8 w9 hown9 hgrow; have hr5 := Lib.hid (hr4.out.alloc (.cells (ptCells (t, (A', c'))).toArray 53 (0, 0))); have hk9 := Lib.hid (grown_far hr5.out hgrow hk5.out (show w.heap.size + 1 + 1 < w.heap.size + 3 by omega)); obtain ⟨z0, z1, z2, z3, y0, -, -, -⟩ := cells4 hk9.out))
      all_goals go_wp2
      all_goals
        clear z0 z1 z2 z3 y0 x0 x1 x2 x3 xf v0 v1 v2 v3 vf d0 d1 d2 d3 f0 c0 c1 c2 e0 e1 e2 e3
        go_roundw
        case rel =>
          have n2 : w.heap.size + 1 + 1 < w.heap.size + 3 := by omega
          have kb : KB (w.heap.size + 3) wr.drew (w9.setCell ⟨w.heap.size + 1 + 1, 0, none⟩ (.slice A8 (k + 1) c8)) := ((KB.below hB4).trans (KB.below ((Below.refl _ _).alloc (Nat.le_refl _) _))).trans ((KB.grown hr5.out hgrow (by decide)).trans (KB.set _ n2))
          have far : ∀ (q : Nat) (o : Obj), q < w.heap.size + 2 → wr.heap[q]? = some o → (w9.setCell ⟨w.heap.size + 1 + 1, 0, none⟩ (.slice A8 (k + 1) c8)).heap[q]? = some o := fun q o hq ho => (Below.heap_setCell _ _ _ _ (by simp; omega)).trans (grown_far hr5.out hgrow ((Below.heap_alloc w4 _ _ (Nat.lt_of_lt_of_le (lt_of_heap ho) hB4.size)).trans ((hB4.block _ (lt_of_heap ho)).trans ho)) (by omega))
          have hsz4 : w.heap.size ≤ w4.heap.size := Nat.le_trans hB.out.size hB4.size
          refine ⟨k + 1, L ++ [(t, (A', c'))], A8, c8, by omega, by go_num, ?_, ?_, ?_, ?_, ?_, far _ _ (by omega) hb1.out, far _ _ (by omega) hb2.out, set_block hk9.out⟩
          · rw [Hid, List.map_append, hL.out, List.take_succ_eq_append_getElem hlt, show a.ids[k] = t by have := HTT.out; rw [List.getElem?_eq_getElem hlt] at this; exact Option.some.inj this]; rfl
          · rw [Hid, List.length_append, hLk.out]; rfl
          · rw [Hid, List.flatMap_append, List.flatMap_singleton]
            exact own_set hown9 n2
          · intro x hx
            rcases List.mem_append.1 hx with hx | hx
            · exact PtO.keep (W := wr.drew) (hpt.out x hx) kb
            · obtain rfl := List.mem_singleton.1 hx
              exact ⟨(hbo4.out.mono HSZ.out).keep (((KB.below ((Below.refl _ _).alloc (Nat.le_refl _) _))).trans ((KB.grown hr5.out hgrow (by decide)).trans (KB.set _ n2))), hnl4.out⟩
          · exact (((hB.out.drew.trans (hB4.mono hB.out.size)).alloc hsz4 _).grown hgrow (by rw [size_alloc]; exact Nat.le_succ_of_le hsz4) (fun j e => by have := own_low hr5.out e; omega)).setCell (p := ⟨w.heap.size + 1 + 1, 0, none⟩) (by simp; omega) _
        case measure => simp [intOf]; omega
    · obtain rfl : k = a.ids.length := by omega
      obtain ⟨d0, d1, d2, d3, -, -, -, -⟩ := cells4 hb3.out
      obtain ⟨r0, r1, r2, r3, s0, s1, s2, s3⟩ := cells4 hb2.out
      go_wp2
      have n3 : w.heap.size + 1 < w.heap.size + 3 := by omega
      have hOW := own_set (j := 3) (u := .bool a.jumps) (own_set (j := 2) (u := .int .i64 a.root.n) (own_set (j := 1) (u := .bool a.root.cell) (own_set (j := 0) (u := .slice A9 a.ids.length c9) hrow.out n3) n3) n3) n3
      have kb : KB (w.heap.size + 3) wr ((((wr.setCell ⟨w.heap.size + 1, 0, none⟩ (.slice A9 a.ids.length c9)).setCell ⟨w.heap.size + 1, 1, none⟩ (.bool a.root.cell)).setCell ⟨w.heap.size + 1, 2, none⟩ (.int .i64 a.root.n)).setCell ⟨w.heap.size + 1, 3, none⟩ (.bool a.jumps)) := (KB.set _ n3).trans ((KB.set _ n3).trans ((KB.set _ n3).trans (KB.set _ n3)))
      have hBB := (((hB.out.setCell (p := ⟨w.heap.size + 1, 0, none⟩) (by simp) (.slice A9 a.ids.length c9)).setCell (p := ⟨w.heap.size + 1, 1, none⟩) (by simp) (.bool a.root.cell)).setCell (p := ⟨w.heap.size + 1, 2, none⟩) (by simp) (.int .i64 a.root.n)).setCell (p := ⟨w.heap.size + 1, 3, none⟩) (by simp) (.bool a.jumps)
      have hLL : L.map Prod.fst = a.ids := by rw [hL.out, List.take_length]
      have hfin := arO_of_row hLL (by rw [hLk.out]; exact hOW) (fun x hx => (hpt.out x hx).keep kb) hlen HPAR.out
      refine bodyPost_ret (v := .agg #[.slice A9 a.ids.length c9, .bool a.root.cell, .int .i64 a.root.n, .bool a.jumps]) (by simp [results, Tryz.results25, go_sem, World.cell?_setCell_same', r0, r1, r2, r3]) rfl ⟨A9, c9, ptP L, rfl, ?_, hBB⟩
      exact ⟨hfin.m, hfin.nil, hfin.nils⟩
end Go.Proofs.YtepdlghobopdbaaGreatDoor
