/-
  PLAIN: the program's answers about moves are the reference's.
-/
import Derived.Test.YtbfpgjnagpcbeaaGreatDoorDo
import Derived.Test.YtbfpgjnagpcbeaaGreatDoorDl
import Derived.Test.YtbfpgjnagpcbeaaGreatDoorBw
namespace Go.Proofs.YtbfpgjnagpcbeaaGreatDoor
open Go.RowKit Go.Shelf

namespace Ar
theorem vals_kind (p : Pl) (kind : Int) : ∀ (n k : Nat), ∀ x ∈ valsFrom p kind k n, x.kind = kind
  | 0, _, x, h => by cases h
  | n + 1, k, x, h => by
    rcases List.mem_cons.1 h with rfl | h
    · rfl
    · exact vals_kind p kind n (k + 1) x h
theorem questions_kind (p : Pl) : ∀ x ∈ questionsOf p, x.kind = 1 ∨ x.kind = 2 := fun x h => by
  rcases List.mem_cons.1 h with rfl | h
  · exact .inl rfl
  · unfold putsOf at h
    split at h
    · exact .inr (vals_kind p 2 _ _ x h)
    · cases h
theorem tells_kind (p : Pl) (v : Nat) : ∀ x ∈ tellsOf p v, x.kind = 3 := fun x h => by
  rcases List.mem_append.1 h with h | h
  · unfold escOf at h
    split at h
    · obtain rfl := List.mem_singleton.1 h; rfl
    · cases h
  · exact vals_kind p 3 _ _ x h
theorem mem_of_any {l : List Mv} {m : Mv} (h : (l.any fun x => mvEq x m) = true) : m ∈ l := by
  obtain ⟨x, hx, he⟩ := List.any_eq_true.1 h
  rw [mvEq_iff, decide_eq_true_eq] at he
  rw [← he]; exact hx
theorem ask_isQ {a : Are} {m : Mv} (h : findErr a m = 0) : askOf m = isQ m := by
  obtain ⟨_, hh, b, hb⟩ := findErr_zero h
  unfold hasRef questionsAt toldAt at hh
  rw [hb] at hh
  simp only [Bool.or_eq_true] at hh
  unfold askOf isQ
  rcases hh with hh | hh
  · rcases questions_kind _ m (mem_of_any hh) with hk | hk
    · rw [hk]; rfl
    · rw [hk]; rfl
  · rw [tells_kind _ _ m (mem_of_any hh)]; rfl
theorem findPl_at {a : Are} {m : Mv} (h : findErr a m = 0) {b : Bs} (hb : placeOf a m.id m.arg = some b) : findPl a m = some ⟨b, m.id, m.arg, escapesOf a m.id m.arg⟩ := by
  unfold findPl
  rw [if_pos h, at_of, hb]; rfl
theorem whose_eq (a : Are) (m : Mv) : otherOf a m = whoseRef a m := by
  unfold whoseRef otherOf
  by_cases h : findErr a m = 0
  · obtain ⟨_, _, b, hb⟩ := findErr_zero h
    rw [if_pos h, findPl_at h hb]
    simp only
    unfold otherRef
    rw [ask_isQ h]
    rfl
  · rw [if_neg h]
    have : findPl a m = none := by unfold findPl; rw [if_neg h]
    rw [this]
theorem fq_eq (a : Are) (m : Mv) : fqErr a m = ansErr a m := by
  unfold fqErr ansErr noQ
  by_cases h : findErr a m = 0
  · rw [if_pos h, ask_isQ h, h]
    cases isQ m <;> rfl
  · rw [if_neg h, decide_eq_false h]; rfl
theorem ans_eq (a : Are) (m : Mv) : ansProg a m = ansRef a m := by
  unfold ansProg ansRef
  rw [fq_eq]
  by_cases h0 : ansErr a m = 0
  · rw [if_pos h0, if_pos h0]
    have hf : findErr a m = 0 := by
      by_cases h : findErr a m = 0
      · exact h
      · unfold ansErr at h0; rw [if_neg h] at h0; exact h0
    have hk : askOf m = true := by
      unfold ansErr at h0
      rw [if_pos hf] at h0
      cases h : askOf m
      · rw [h] at h0; cases h0
      · rfl
    obtain ⟨hc, _, b, hb⟩ := findErr_zero hf
    obtain ⟨hb1, hb2⟩ := placeOf_right (right_of_check hc) hb
    rw [findPl_at hf hb]
    unfold toldAt
    rw [hb]
    simp only
    unfold askOf at hk
    simp only [Bool.or_eq_true, decide_eq_true_eq] at hk
    rcases hk with hk | hk
    · rw [hk, if_neg (by decide), if_pos rfl]; rfl
    · rw [hk, if_pos rfl, if_neg (by decide), show min 1 b.n.toNat = 1 by omega]
  · rw [if_neg h0, if_neg h0]
theorem und_eq (a : Are) (m : Mv) : underRes a m = undRef a m := by
  unfold underRes undRef
  rw [fq_eq]
  by_cases h0 : ansErr a m = 0
  · rw [if_pos h0, if_pos h0]
    have hf : findErr a m = 0 := by
      by_cases h : findErr a m = 0
      · exact h
      · unfold ansErr at h0; rw [if_neg h] at h0; exact h0
    obtain ⟨hc, _, b, hb⟩ := findErr_zero hf
    rw [findPl_at hf hb]
    simp only
    unfold underOf belowOf
    by_cases hi : 0 < m.id ∧ m.arg = 0
    · have e : isId ⟨b, m.id, m.arg, escapesOf a m.id m.arg⟩ = true := by
        unfold isId
        rw [Bool.and_eq_true]
        exact ⟨decide_eq_true hi.1, decide_eq_true hi.2⟩
      obtain ⟨k, t, hid, ht⟩ := placeOf_in hb hi.1
      rw [if_pos e, if_pos hi]
      have hu : underIs ⟨b, m.id, m.arg, escapesOf a m.id m.arg⟩ = under ((k : Int) + 1) := by
        funext q
        unfold underIs under
        simp only [hid]
      rw [hu, below_args a k t ht, hid]
    · have e : isId ⟨b, m.id, m.arg, escapesOf a m.id m.arg⟩ = false := by
        unfold isId
        rw [Bool.and_eq_false_iff]
        by_cases h1 : 0 < m.id
        · exact .inr (decide_eq_false (fun h2 => hi ⟨h1, h2⟩))
        · exact .inl (decide_eq_false h1)
      rw [e, if_neg Bool.false_ne_true, if_neg hi, below_ids]
  · rw [if_neg h0, if_neg h0]
/-- Whether an arena has a move, by the reference. -/
def isRef (a : Are) (m : Mv) : Bool := decide (checkOf a = 0) && hasRef a m
theorem has_eq (a : Are) (m : Mv) : decide (findErr a m = 0) = isRef a m := by
  unfold isRef
  by_cases h : checkOf a = 0
  · rw [has_ref h, decide_eq_true h]
    cases hasRef a m <;> rfl
  · rw [decide_eq_false h, Bool.false_and]
    unfold findErr
    rw [if_neg h]
    exact decide_eq_false h
end Ar
end Go.Proofs.YtbfpgjnagpcbeaaGreatDoor
