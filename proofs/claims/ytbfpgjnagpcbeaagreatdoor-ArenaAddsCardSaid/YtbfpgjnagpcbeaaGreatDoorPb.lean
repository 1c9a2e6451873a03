/-
  PLAIN: places by their numbers; questions and answers of a place; what stands below a question.
-/
import Derived.Test.YtbfpgjnagpcbeaaGreatDoorPa
namespace Go.Proofs.YtbfpgjnagpcbeaaGreatDoor.Ar

def isAt (id arg : Int) (x : Pl) : Bool := decide (x.id = id) && decide (x.arg = arg)
/-- The base type of a place, by its numbers. -/
def placeOf (a : Are) (id arg : Int) : Option Bs :=
  if id = 0 ∧ arg = 0 then some a.root
  else if id < 1 ∨ (a.ids.length : Int) < id then none
  else match a.ids[(id - 1).toNat]? with
    | none => none
    | some t => if arg = 0 then some t.result else if arg < 1 ∨ (t.params.length : Int) < arg then none else t.params[(arg - 1).toNat]?
def manyOf (a : Are) (id : Int) : Nat := match a.ids[(id - 1).toNat]? with | some t => t.params.length | none => 0
def escapesOf (a : Are) (id arg : Int) : Bool := decide (0 < arg) || a.jumps || (decide (0 < id) && decide (0 < manyOf a id))

theorem find_params (i : Nat) (id arg : Int) : ∀ (l : List Bs) (j : Nat), (paramsFrom i j l).find? (isAt id arg) = if id = (i : Int) + 1 ∧ (j : Int) < arg then (l[(arg - 1 - j).toNat]?).map (fun b => ⟨b, id, arg, true⟩) else none
  | [], j => by simp [paramsFrom]
  | b :: l, j => by
    rw [paramsFrom, List.find?_cons, find_params i id arg l (j + 1)]
    by_cases h1 : id = (i : Int) + 1
    · by_cases h2 : arg = (j : Int) + 1
      · have e : isAt id arg ⟨b, (i : Int) + 1, (j : Int) + 1, true⟩ = true := by simp [isAt, h1, h2]
        rw [e]
        simp only
        rw [if_pos ⟨h1, by omega⟩, show (arg - 1 - (j : Int)).toNat = 0 by omega, h1, h2]
        rfl
      · have e : isAt id arg ⟨b, (i : Int) + 1, (j : Int) + 1, true⟩ = false := by
          unfold isAt
          rw [Bool.and_eq_false_iff]
          exact .inr (decide_eq_false (by simp only; omega))
        rw [e]
        simp only
        by_cases h3 : (j : Int) < arg
        · rw [if_pos ⟨h1, by omega⟩, if_pos ⟨h1, h3⟩, show (arg - 1 - (j : Int)).toNat = (arg - 1 - ((j + 1 : Nat) : Int)).toNat + 1 by omega, List.getElem?_cons_succ]
        · rw [if_neg (by omega), if_neg (by omega)]
    · have e : isAt id arg ⟨b, (i : Int) + 1, (j : Int) + 1, true⟩ = false := by
        unfold isAt
        rw [Bool.and_eq_false_iff]
        exact .inl (decide_eq_false (by simp only; omega))
      rw [e, if_neg (by omega), if_neg (by omega)]

theorem find_types (jm : Bool) (id arg : Int) : ∀ (l : List Ty) (i : Nat), (typesFrom jm i l).find? (isAt id arg) =
    if (i : Int) < id then (match l[(id - 1 - i).toNat]? with
      | none => none
      | some t => if arg = 0 then some ⟨t.result, id, 0, jm || decide (0 < t.params.length)⟩ else if 0 < arg then (t.params[(arg - 1).toNat]?).map (fun b => ⟨b, id, arg, true⟩) else none)
    else none
  | [], i => by simp [typesFrom]
  | t :: l, i => by
    rw [typesFrom, List.find?_cons, List.find?_append, find_params, find_types jm id arg l (i + 1)]
    by_cases h1 : id = (i : Int) + 1
    · rw [if_neg (show ¬ ((i + 1 : Nat) : Int) < id by omega), if_pos (show (i : Int) < id by omega), show (id - 1 - (i : Int)).toNat = 0 by omega]
      simp only [List.getElem?_cons_zero]
      by_cases h2 : arg = 0
      · have e : isAt id arg ⟨t.result, (i : Int) + 1, 0, jm || decide (0 < t.params.length)⟩ = true := by simp [isAt, h1, h2]
        rw [e, if_pos h2, h1]
      · have e : isAt id arg ⟨t.result, (i : Int) + 1, 0, jm || decide (0 < t.params.length)⟩ = false := by
          unfold isAt
          rw [Bool.and_eq_false_iff]
          exact .inr (decide_eq_false (by simp only; omega))
        rw [e, if_neg h2]
        simp only
        by_cases h3 : 0 < arg
        · rw [if_pos ⟨h1, by omega⟩, if_pos h3, show (arg - 1 - ((0 : Nat) : Int)).toNat = (arg - 1).toNat by omega]
          cases (t.params[(arg - 1).toNat]?) <;> rfl
        · rw [if_neg (by omega), if_neg h3]; rfl
    · have e : isAt id arg ⟨t.result, (i : Int) + 1, 0, jm || decide (0 < t.params.length)⟩ = false := by
        unfold isAt
        rw [Bool.and_eq_false_iff]
        exact .inl (decide_eq_false (by simp only; omega))
      rw [e, if_neg (show ¬ (id = (i : Int) + 1 ∧ ((0 : Nat) : Int) < arg) by omega)]
      simp only [Option.none_or]
      by_cases h3 : (i : Int) < id
      · rw [if_pos (show ((i + 1 : Nat) : Int) < id by omega), if_pos h3, show (id - 1 - (i : Int)).toNat = (id - 1 - ((i + 1 : Nat) : Int)).toNat + 1 by omega, List.getElem?_cons_succ]
      · rw [if_neg (show ¬ ((i + 1 : Nat) : Int) < id by omega), if_neg h3]

/-- The place with two numbers, as a list of all says it and as they say it. -/
theorem at_eq (a : Are) (id arg : Int) : (placesOf a).find? (isAt id arg) = (placeOf a id arg).map fun b => ⟨b, id, arg, escapesOf a id arg⟩ := by
  unfold placesOf
  rw [List.find?_cons, find_types]
  unfold placeOf escapesOf manyOf
  by_cases h0 : id = 0 ∧ arg = 0
  · have e : isAt id arg ⟨a.root, 0, 0, a.jumps⟩ = true := by simp [isAt, h0.1, h0.2]
    rw [e, if_pos h0]
    obtain ⟨rfl, rfl⟩ := h0
    simp
  · have e : isAt id arg ⟨a.root, 0, 0, a.jumps⟩ = false := by
      unfold isAt
      rw [Bool.and_eq_false_iff]
      by_cases h1 : id = 0
      · exact .inr (decide_eq_false (by simp only; omega))
      · exact .inl (decide_eq_false (by simp only; omega))
    rw [e, if_neg h0]
    simp only
    by_cases h1 : id < 1
    · rw [if_neg (show ¬ (((0 : Nat) : Int) < id) by omega), if_pos (.inl h1)]; rfl
    · rw [if_pos (show ((0 : Nat) : Int) < id by omega), show (id - 1 - ((0 : Nat) : Int)).toNat = (id - 1).toNat by omega]
      by_cases h2 : (a.ids.length : Int) < id
      · rw [if_pos (.inr h2), List.getElem?_eq_none (by omega)]; rfl
      · rw [if_neg (by omega)]
        cases ht : a.ids[(id - 1).toNat]? with
        | none => rfl
        | some t =>
          simp only
          by_cases h3 : arg = 0
          · subst h3
            rw [if_pos rfl, if_pos rfl, Option.map_some]
            have : decide (0 < id) = true := decide_eq_true (by omega)
            simp [this]
          · rw [if_neg h3, if_neg h3]
            by_cases h4 : 0 < arg
            · rw [if_pos h4]
              by_cases h5 : (t.params.length : Int) < arg
              · rw [if_pos (.inr h5), List.getElem?_eq_none (by omega)]; rfl
              · rw [if_neg (by omega)]
                have : decide (0 < arg) = true := decide_eq_true h4
                simp [this]
            · rw [if_neg h4, if_pos (.inl (by omega))]; rfl

/-- The questions and the answers of a place, by its numbers. -/
def questionsAt (a : Are) (id arg : Int) : List Mv := match placeOf a id arg with | some b => questionsOf ⟨b, id, arg, escapesOf a id arg⟩ | none => []
def toldAt (a : Are) (id arg kind : Int) : List Mv := match placeOf a id arg with | some b => tellsOf ⟨b, id, arg, escapesOf a id arg⟩ (if kind = 1 then b.n.toNat else min 1 b.n.toNat) | none => []
/-- The questions of the params of an identifier, from the j-th on, n of them; of the identifiers. -/
def belowArgs (a : Are) (id : Int) : Nat → Nat → List Mv
  | _, 0 => []
  | j, n + 1 => questionsAt a id ((j : Int) + 1) ++ belowArgs a id (j + 1) n
def belowIds (a : Are) : Nat → Nat → List Mv
  | _, 0 => []
  | i, n + 1 => questionsAt a ((i : Int) + 1) 0 ++ belowIds a (i + 1) n
def belowOf (a : Are) (m : Mv) : List Mv := if 0 < m.id ∧ m.arg = 0 then belowArgs a m.id 0 (manyOf a m.id) else belowIds a 0 a.ids.length

theorem questionsOf_of (b : Bs) (id arg : Int) (j j' : Bool) : questionsOf ⟨b, id, arg, j⟩ = questionsOf ⟨b, id, arg, j'⟩ := by
  have h : ∀ (m k : Nat), valsFrom ⟨b, id, arg, j⟩ 2 k m = valsFrom ⟨b, id, arg, j'⟩ 2 k m := fun m => by
    induction m with
    | zero => intro k; rfl
    | succ m ih => intro k; rw [valsFrom, valsFrom, ih]; rfl
  unfold questionsOf putsOf
  rw [h]; rfl
theorem filter_none {α : Type} {f : α → Bool} : ∀ {l : List α}, (∀ x ∈ l, f x = false) → l.filter f = []
  | [], _ => rfl
  | x :: l, h => by rw [List.filter_cons, h x (.head _)]; exact filter_none (fun y hy => h y (.tail _ hy))
theorem filter_every {α : Type} {f : α → Bool} : ∀ {l : List α}, (∀ x ∈ l, f x = true) → l.filter f = l
  | [], _ => rfl
  | x :: l, h => by rw [List.filter_cons, h x (.head _)]; simp only [if_true]; rw [filter_every (fun y hy => h y (.tail _ hy))]
theorem params_all {i : Nat} : ∀ {l : List Bs} {j : Nat}, ∀ p ∈ paramsFrom i j l, p.id = (i : Int) + 1 ∧ 0 < p.arg
  | [], _, p, h => by cases h
  | b :: l, j, p, h => by
    rcases List.mem_cons.1 h with rfl | h
    · exact ⟨rfl, by simp only; omega⟩
    · exact params_all p h
theorem types_low {jm : Bool} : ∀ {l : List Ty} {i : Nat}, ∀ p ∈ typesFrom jm i l, (i : Int) < p.id
  | [], _, p, h => by cases h
  | t :: l, i, p, h => by
    rcases List.mem_cons.1 h with rfl | h
    · simp only; omega
    · rcases List.mem_append.1 h with h | h
      · have := (params_all p h).1; omega
      · have := types_low p h; omega
theorem placeOf_id {a : Are} {k : Nat} {t : Ty} (h : a.ids[k]? = some t) : placeOf a ((k : Int) + 1) 0 = some t.result := by
  have hk := (List.getElem?_eq_some_iff.1 h).1
  unfold placeOf
  rw [if_neg (by omega), if_neg (by omega), show ((k : Int) + 1 - 1).toNat = k by omega, h]
  simp
theorem placeOf_arg {a : Are} {k j : Nat} {t : Ty} {b : Bs} (h : a.ids[k]? = some t) (hb : t.params[j]? = some b) : placeOf a ((k : Int) + 1) ((j : Int) + 1) = some b := by
  have hk := (List.getElem?_eq_some_iff.1 h).1
  have hj := (List.getElem?_eq_some_iff.1 hb).1
  unfold placeOf
  rw [if_neg (by omega), if_neg (by omega), show ((k : Int) + 1 - 1).toNat = k by omega, h]
  simp only
  rw [if_neg (by omega), if_neg (by omega), show ((j : Int) + 1 - 1).toNat = j by omega, hb]
theorem below_ids_from (a : Are) : ∀ (l : List Ty) (i : Nat), a.ids.drop i = l → ((typesFrom a.jumps i l).filter isId).flatMap questionsOf = belowIds a i l.length
  | [], i, _ => rfl
  | t :: l, i, h => by
    have hi : i < a.ids.length := by
      rcases Nat.lt_or_ge i a.ids.length with h1 | h1
      · exact h1
      · rw [List.drop_eq_nil_of_le h1] at h; cases h
    have ht : a.ids[i]? = some t := by
      rw [List.drop_eq_getElem_cons hi] at h
      injection h with h1 _
      rw [List.getElem?_eq_getElem hi, h1]
    have hl : a.ids.drop (i + 1) = l := by
      rw [List.drop_eq_getElem_cons hi] at h
      injection h
    rw [typesFrom, List.filter_cons]
    have e : isId ⟨t.result, (i : Int) + 1, 0, a.jumps || decide (0 < t.params.length)⟩ = true := by
      unfold isId
      rw [Bool.and_eq_true]
      exact ⟨decide_eq_true (by simp only; omega), decide_eq_true rfl⟩
    rw [e]
    simp only [if_true]
    rw [List.filter_append, filter_none (l := paramsFrom i 0 t.params) (fun p hp => by
      have := (params_all p hp).2
      unfold isId
      rw [Bool.and_eq_false_iff]
      exact .inr (decide_eq_false (by omega))), List.nil_append, List.flatMap_cons, below_ids_from a l (i + 1) hl, List.length_cons, belowIds]
    unfold questionsAt
    rw [placeOf_id ht]
    exact congrArg (· ++ _) (questionsOf_of _ _ _ _ _)
theorem below_ids (a : Are) : ((placesOf a).filter isId).flatMap questionsOf = belowIds a 0 a.ids.length := by
  unfold placesOf
  rw [List.filter_cons]
  have e : isId ⟨a.root, 0, 0, a.jumps⟩ = false := rfl
  rw [e]
  exact below_ids_from a a.ids 0 rfl
theorem below_params (a : Are) (k : Nat) (t : Ty) (ht : a.ids[k]? = some t) : ∀ (l : List Bs) (j : Nat), t.params.drop j = l → (paramsFrom k j l).flatMap questionsOf = belowArgs a ((k : Int) + 1) j l.length
  | [], j, _ => rfl
  | b :: l, j, h => by
    have hj : j < t.params.length := by
      rcases Nat.lt_or_ge j t.params.length with h1 | h1
      · exact h1
      · rw [List.drop_eq_nil_of_le h1] at h; cases h
    have hb : t.params[j]? = some b := by
      rw [List.drop_eq_getElem_cons hj] at h
      injection h with h1 _
      rw [List.getElem?_eq_getElem hj, h1]
    have hl : t.params.drop (j + 1) = l := by
      rw [List.drop_eq_getElem_cons hj] at h
      injection h
    rw [paramsFrom, List.flatMap_cons, below_params a k t ht l (j + 1) hl, List.length_cons, belowArgs]
    unfold questionsAt
    rw [placeOf_arg ht hb]
    exact congrArg (· ++ _) (questionsOf_of _ _ _ _ _)
def under (id : Int) (q : Pl) : Bool := decide (q.id = id) && !isId q
theorem below_from (jm : Bool) (k : Nat) (t : Ty) : ∀ (l : List Ty) (i : Nat), i ≤ k → l[k - i]? = some t → (typesFrom jm i l).filter (under ((k : Int) + 1)) = paramsFrom k 0 t.params
  | [], i, _, h => by simp at h
  | s :: l, i, hi, h => by
    rw [typesFrom, List.filter_cons]
    have e : under ((k : Int) + 1) ⟨s.result, (i : Int) + 1, 0, jm || decide (0 < s.params.length)⟩ = false := by
      unfold under isId
      have h1 : decide (0 < (i : Int) + 1) = true := decide_eq_true (by omega)
      simp
    rw [e, if_neg Bool.false_ne_true, List.filter_append]
    by_cases hk : k = i
    · subst hk
      rw [Nat.sub_self] at h
      cases h
      rw [filter_every (l := paramsFrom k 0 t.params) (fun p hp => by
        obtain ⟨h1, h2⟩ := params_all p hp
        unfold under isId
        rw [h1, decide_eq_true rfl, decide_eq_false (show ¬ p.arg = 0 by omega)]
        simp), filter_none (l := typesFrom jm (k + 1) l) (fun p hp => by
        have := types_low p hp
        unfold under
        rw [decide_eq_false (by omega)]; rfl), List.append_nil]
    · rw [filter_none (l := paramsFrom i 0 s.params) (fun p hp => by
        have := (params_all p hp).1
        unfold under
        rw [decide_eq_false (by omega)]; rfl), List.nil_append]
      refine below_from jm k t l (i + 1) (by omega) ?_
      rw [show k - i = (k - (i + 1)) + 1 by omega, List.getElem?_cons_succ] at h
      exact h
theorem below_args (a : Are) (k : Nat) (t : Ty) (ht : a.ids[k]? = some t) : ((placesOf a).filter (under ((k : Int) + 1))).flatMap questionsOf = belowArgs a ((k : Int) + 1) 0 (manyOf a ((k : Int) + 1)) := by
  unfold placesOf
  rw [List.filter_cons]
  have e : under ((k : Int) + 1) ⟨a.root, 0, 0, a.jumps⟩ = false := by
    unfold under
    rw [decide_eq_false (by simp only; omega)]; rfl
  rw [e, if_neg Bool.false_ne_true]
  rw [below_from a.jumps k t a.ids 0 (Nat.zero_le _) ht, below_params a k t ht t.params 0 rfl]
  unfold manyOf
  rw [show ((k : Int) + 1 - 1).toNat = k by omega, ht]
end Go.Proofs.YtbfpgjnagpcbeaaGreatDoor.Ar
