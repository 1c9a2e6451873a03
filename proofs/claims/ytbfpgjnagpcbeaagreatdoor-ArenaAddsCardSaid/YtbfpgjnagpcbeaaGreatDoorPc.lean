/-
  PLAIN: all moves of an arena, place by place; their order; what answers, and what stands below.
-/
import Derived.Test.YtbfpgjnagpcbeaaGreatDoorPb
namespace Go.Proofs.YtbfpgjnagpcbeaaGreatDoor.Ar

/-- The moves of a place, by its numbers; of the first n params of an identifier; of the first n identifiers. -/
def cellAt (a : Are) (id arg : Int) : List Mv := questionsAt a id arg ++ toldAt a id arg 1
def argsTo (a : Are) (id : Int) : Nat → List Mv
  | 0 => []
  | n + 1 => argsTo a id n ++ cellAt a id n
def idsTo (a : Are) : Nat → List Mv
  | 0 => []
  | n + 1 => idsTo a n ++ argsTo a n 6

theorem cell_some {a : Are} {id arg : Int} {b : Bs} (h : placeOf a id arg = some b) : cellAt a id arg = movesOf ⟨b, id, arg, escapesOf a id arg⟩ := by
  unfold cellAt questionsAt toldAt
  rw [h]; rfl
theorem cell_none {a : Are} {id arg : Int} (h : placeOf a id arg = none) : cellAt a id arg = [] := by
  unfold cellAt questionsAt toldAt
  rw [h]; rfl
theorem placeOf_zero (a : Are) : placeOf a 0 0 = some a.root := by unfold placeOf; rw [if_pos ⟨rfl, rfl⟩]
theorem placeOf_zero_arg (a : Are) {arg : Int} (h : arg ≠ 0) : placeOf a 0 arg = none := by
  unfold placeOf
  rw [if_neg (fun e => h e.2), if_pos (.inl (by omega))]
theorem placeOf_past {a : Are} {k : Nat} {t : Ty} (h : a.ids[k]? = some t) {j : Nat} (hj : t.params.length ≤ j) : placeOf a ((k : Int) + 1) ((j : Int) + 1) = none := by
  have hk := (List.getElem?_eq_some_iff.1 h).1
  unfold placeOf
  rw [if_neg (by omega), if_neg (by omega), show ((k : Int) + 1 - 1).toNat = k by omega, h]
  simp only
  rw [if_neg (by omega), if_pos (.inr (by omega))]
theorem args_zero (a : Are) : ∀ n, argsTo a 0 (n + 1) = movesOf ⟨a.root, 0, 0, a.jumps⟩
  | 0 => by
    have e : escapesOf a 0 0 = a.jumps := by unfold escapesOf; simp
    rw [argsTo, argsTo, List.nil_append]
    have := cell_some (placeOf_zero a)
    rw [e] at this
    exact this
  | n + 1 => by
    rw [argsTo, args_zero a n, cell_none (placeOf_zero_arg a (by omega)), List.append_nil]
theorem manyOf_at {a : Are} {k : Nat} {t : Ty} (h : a.ids[k]? = some t) : manyOf a ((k : Int) + 1) = t.params.length := by
  unfold manyOf
  rw [show ((k : Int) + 1 - 1).toNat = k by omega, h]
theorem params_snoc (i : Nat) : ∀ (l : List Bs) (j : Nat) (b : Bs), paramsFrom i j (l ++ [b]) = paramsFrom i j l ++ [⟨b, (i : Int) + 1, ((j + l.length : Nat) : Int) + 1, true⟩]
  | [], j, b => rfl
  | x :: l, j, b => by
    rw [List.cons_append, paramsFrom, params_snoc i l (j + 1) b, paramsFrom, List.cons_append, List.length_cons, show j + 1 + l.length = j + (l.length + 1) by omega]
theorem types_snoc (jm : Bool) : ∀ (l : List Ty) (i : Nat) (t : Ty), typesFrom jm i (l ++ [t]) = typesFrom jm i l ++ (⟨t.result, ((i + l.length : Nat) : Int) + 1, 0, jm || decide (0 < t.params.length)⟩ :: paramsFrom (i + l.length) 0 t.params)
  | [], i, t => by simp [typesFrom]
  | x :: l, i, t => by
    rw [List.cons_append, typesFrom, types_snoc jm l (i + 1) t, typesFrom, List.cons_append, List.length_cons, List.append_assoc, show i + 1 + l.length = i + (l.length + 1) by omega]
theorem args_at {a : Are} {k : Nat} {t : Ty} (h : a.ids[k]? = some t) : ∀ n, argsTo a ((k : Int) + 1) (n + 1) = movesOf ⟨t.result, (k : Int) + 1, 0, a.jumps || decide (0 < t.params.length)⟩ ++ (paramsFrom k 0 (t.params.take n)).flatMap movesOf
  | 0 => by
    have e : escapesOf a ((k : Int) + 1) 0 = (a.jumps || decide (0 < t.params.length)) := by
      unfold escapesOf
      rw [manyOf_at h]
      have : decide (0 < (k : Int) + 1) = true := decide_eq_true (by omega)
      simp
    rw [argsTo, argsTo, List.nil_append]
    have := cell_some (placeOf_id h)
    rw [e] at this
    rw [List.take_zero, paramsFrom, List.flatMap_nil, List.append_nil]
    exact this
  | n + 1 => by
    rw [argsTo, args_at h n, List.append_assoc]
    congr 1
    by_cases hn : n < t.params.length
    · obtain ⟨b, hb⟩ : ∃ b, t.params[n]? = some b := ⟨_, List.getElem?_eq_getElem hn⟩
      have e : escapesOf a ((k : Int) + 1) ((n : Int) + 1) = true := by
        unfold escapesOf
        rw [decide_eq_true (show 0 < (n : Int) + 1 by omega)]; rfl
      have hc := cell_some (placeOf_arg h hb)
      rw [e] at hc
      rw [show ((n + 1 : Nat) : Int) = (n : Int) + 1 by omega, hc, List.take_add_one, hb, Option.toList_some, params_snoc, List.flatMap_append, List.flatMap_singleton, List.length_take, show min n t.params.length = n by omega, Nat.zero_add]
    · rw [show ((n + 1 : Nat) : Int) = (n : Int) + 1 by omega, cell_none (placeOf_past h (by omega)), List.append_nil, List.take_of_length_le (by omega), List.take_of_length_le (by omega)]
theorem ids_at {a : Are} (hr : Right a) : ∀ n, n ≤ a.ids.length → idsTo a (n + 1) = movesOf ⟨a.root, 0, 0, a.jumps⟩ ++ (typesFrom a.jumps 0 (a.ids.take n)).flatMap movesOf
  | 0, _ => by
    rw [idsTo, idsTo, List.nil_append, List.take_zero, typesFrom, List.flatMap_nil, List.append_nil]
    exact args_zero a 5
  | n + 1, hn => by
    obtain ⟨t, ht⟩ : ∃ t, a.ids[n]? = some t := ⟨_, List.getElem?_eq_getElem (by omega)⟩
    have h5 := hr.long t (List.mem_of_getElem? ht)
    rw [idsTo, ids_at hr n (by omega), List.append_assoc]
    congr 1
    rw [show ((n + 1 : Nat) : Int) = (n : Int) + 1 by omega, args_at ht 5, List.take_of_length_le h5, List.take_add_one, ht, Option.toList_some, types_snoc, List.flatMap_append, List.flatMap_cons, List.length_take, show min n a.ids.length = n by omega, Nat.zero_add]
/-- All moves, listed place by place by numbers. -/
theorem all_ids {a : Are} (hr : Right a) : idsTo a (a.ids.length + 1) = allOf a := by
  rw [ids_at hr _ (Nat.le_refl _), List.take_length]
  unfold allOf placesOf
  rw [List.flatMap_cons]

theorem vals_of (p : Pl) (kind : Int) : ∀ (n k : Nat), ∀ x ∈ valsFrom p kind k n, x.id = p.id ∧ x.arg = p.arg ∧ x.kind = kind ∧ (k : Int) ≤ x.n
  | 0, _, x, h => by cases h
  | n + 1, k, x, h => by
    rcases List.mem_cons.1 h with rfl | h
    · exact ⟨rfl, rfl, rfl, Int.le_refl _⟩
    · obtain ⟨h1, h2, h3, h4⟩ := vals_of p kind n (k + 1) x h
      exact ⟨h1, h2, h3, by omega⟩
theorem questions_of (p : Pl) : ∀ x ∈ questionsOf p, x.id = p.id ∧ x.arg = p.arg ∧ (x.kind = 1 ∨ x.kind = 2) := fun x h => by
  rcases List.mem_cons.1 h with rfl | h
  · exact ⟨rfl, rfl, .inl rfl⟩
  · unfold putsOf at h
    split at h
    · obtain ⟨h1, h2, h3, _⟩ := vals_of p 2 _ _ x h
      exact ⟨h1, h2, .inr h3⟩
    · cases h
theorem tells_of (p : Pl) (v : Nat) : ∀ x ∈ tellsOf p v, x.id = p.id ∧ x.arg = p.arg ∧ x.kind = 3 := fun x h => by
  rcases List.mem_append.1 h with h | h
  · unfold escOf at h
    split at h
    · obtain rfl := List.mem_singleton.1 h; exact ⟨rfl, rfl, rfl⟩
    · cases h
  · obtain ⟨h1, h2, h3, _⟩ := vals_of p 3 _ _ x h
    exact ⟨h1, h2, h3⟩
theorem questionsAt_of {a : Are} {id arg : Int} : ∀ x ∈ questionsAt a id arg, x.id = id ∧ x.arg = arg ∧ (x.kind = 1 ∨ x.kind = 2) := fun x h => by
  unfold questionsAt at h
  split at h
  · exact questions_of _ x h
  · cases h
theorem toldAt_of {a : Are} {id arg kind : Int} : ∀ x ∈ toldAt a id arg kind, x.id = id ∧ x.arg = arg ∧ x.kind = 3 := fun x h => by
  unfold toldAt at h
  split at h
  · exact tells_of _ _ x h
  · cases h
theorem cell_of {a : Are} {id arg : Int} : ∀ x ∈ cellAt a id arg, x.id = id ∧ x.arg = arg ∧ x ∈ cellAt a x.id x.arg := fun x h => by
  have h' := h
  unfold cellAt at h
  rcases List.mem_append.1 h with h | h
  · obtain ⟨rfl, rfl, _⟩ := questionsAt_of x h
    exact ⟨rfl, rfl, h'⟩
  · obtain ⟨rfl, rfl, _⟩ := toldAt_of x h
    exact ⟨rfl, rfl, h'⟩
theorem args_of {a : Are} {id : Int} : ∀ n, ∀ x ∈ argsTo a id n, x.id = id ∧ x.arg < n ∧ 0 ≤ x.arg ∧ x ∈ cellAt a x.id x.arg
  | 0, x, h => by cases h
  | n + 1, x, h => by
    rw [argsTo] at h
    rcases List.mem_append.1 h with h | h
    · obtain ⟨h1, h2, h4, h3⟩ := args_of n x h
      exact ⟨h1, by omega, h4, h3⟩
    · obtain ⟨h1, h2, h3⟩ := cell_of x h
      exact ⟨h1, by omega, by omega, h3⟩
theorem ids_of {a : Are} : ∀ n, ∀ x ∈ idsTo a n, x.id < n ∧ 0 ≤ x.id ∧ x ∈ cellAt a x.id x.arg
  | 0, x, h => by cases h
  | n + 1, x, h => by
    rw [idsTo] at h
    rcases List.mem_append.1 h with h | h
    · obtain ⟨h1, h2, h3⟩ := ids_of n x h
      exact ⟨by omega, h2, h3⟩
    · obtain ⟨h1, h2, h4, h3⟩ := args_of 6 x h
      exact ⟨by omega, by omega, h3⟩

/-! ### Their order -/
def Less (x y : Mv) : Prop := lessOf x y = true
theorem less_n {x y : Mv} (h1 : x.id = y.id) (h2 : x.arg = y.arg) (h3 : x.kind = y.kind) (h : x.n < y.n) : Less x y := by
  unfold Less lessOf
  rw [if_neg (by simp [h1]), if_neg (by simp [h2]), if_neg (by simp [h3])]
  exact decide_eq_true h
theorem less_kind {x y : Mv} (h1 : x.id = y.id) (h2 : x.arg = y.arg) (h : x.kind < y.kind) : Less x y := by
  unfold Less lessOf
  rw [if_neg (by simp [h1]), if_neg (by simp [h2]), if_pos (by omega)]
  exact decide_eq_true h
theorem less_arg {x y : Mv} (h1 : x.id = y.id) (h : x.arg < y.arg) : Less x y := by
  unfold Less lessOf
  rw [if_neg (by simp [h1]), if_pos (by omega)]
  exact decide_eq_true h
theorem less_id {x y : Mv} (h : x.id < y.id) : Less x y := by
  unfold Less lessOf
  rw [if_pos (by omega)]
  exact decide_eq_true h
theorem vals_asc (p : Pl) (kind : Int) : ∀ (n k : Nat), (valsFrom p kind k n).Pairwise Less
  | 0, _ => List.Pairwise.nil
  | n + 1, k => by
    refine List.Pairwise.cons (fun x hx => ?_) (vals_asc p kind n (k + 1))
    obtain ⟨h1, h2, h3, h4⟩ := vals_of p kind n (k + 1) x hx
    exact less_n h1.symm h2.symm h3.symm (show (k : Int) < x.n by omega)
theorem moves_asc (p : Pl) : (movesOf p).Pairwise Less := by
  unfold movesOf answersOf tellsOf
  refine List.pairwise_append.2 ⟨?_, List.pairwise_append.2 ⟨?_, vals_asc p 3 _ _, ?_⟩, ?_⟩
  · refine List.Pairwise.cons (fun x hx => ?_) ?_
    · unfold putsOf at hx
      split at hx
      · obtain ⟨h1, h2, h3, _⟩ := vals_of p 2 _ _ x hx
        exact less_kind h1.symm h2.symm (by rw [h3]; show (1 : Int) < 2; omega)
      · cases hx
    · unfold putsOf
      split
      · exact vals_asc p 2 _ _
      · exact List.Pairwise.nil
  · unfold escOf
    split
    · exact List.pairwise_singleton _ _
    · exact List.Pairwise.nil
  · intro x hx y hy
    unfold escOf at hx
    split at hx
    · obtain rfl := List.mem_singleton.1 hx
      obtain ⟨h1, h2, h3, h4⟩ := vals_of p 3 _ _ y hy
      exact less_n h1.symm h2.symm h3.symm (show (-1 : Int) < y.n by omega)
    · cases hx
  · intro x hx y hy
    obtain ⟨h1, h2, h3⟩ := questions_of p x hx
    obtain ⟨k1, k2, k3⟩ := tells_of p p.base.n.toNat y hy
    exact less_kind (h1.trans k1.symm) (h2.trans k2.symm) (by omega)
theorem cell_asc (a : Are) (id arg : Int) : (cellAt a id arg).Pairwise Less := by
  cases h : placeOf a id arg with
  | none => rw [cell_none h]; exact List.Pairwise.nil
  | some b => rw [cell_some h]; exact moves_asc _
theorem args_asc (a : Are) (id : Int) : ∀ n, (argsTo a id n).Pairwise Less
  | 0 => List.Pairwise.nil
  | n + 1 => by
    rw [argsTo]
    refine List.pairwise_append.2 ⟨args_asc a id n, cell_asc a id n, fun x hx y hy => ?_⟩
    obtain ⟨h1, h2, _⟩ := args_of n x hx
    obtain ⟨k1, k2, _⟩ := cell_of y hy
    exact less_arg (h1.trans k1.symm) (by omega)
theorem ids_asc (a : Are) : ∀ n, (idsTo a n).Pairwise Less
  | 0 => List.Pairwise.nil
  | n + 1 => by
    rw [idsTo]
    refine List.pairwise_append.2 ⟨ids_asc a n, args_asc a n 6, fun x hx y hy => ?_⟩
    obtain ⟨h1, _⟩ := ids_of n x hx
    obtain ⟨k1, _⟩ := args_of 6 y hy
    exact less_id (by omega)
theorem all_asc {a : Are} (hr : Right a) {i : Nat} {x y : Mv} (hx : (allOf a)[i]? = some x) (hy : (allOf a)[i + 1]? = some y) : lessOf x y = true := by
  have h := ids_asc a (a.ids.length + 1)
  rw [all_ids hr] at h
  obtain ⟨hi, rfl⟩ := List.getElem?_eq_some_iff.1 hx
  obtain ⟨hj, rfl⟩ := List.getElem?_eq_some_iff.1 hy
  exact List.pairwise_iff_getElem.1 h i (i + 1) hi hj (Nat.lt_succ_self _)
theorem all_cell {a : Are} (hr : Right a) {x : Mv} (hx : x ∈ allOf a) : x ∈ cellAt a x.id x.arg := by
  rw [← all_ids hr] at hx
  exact (ids_of _ x hx).2.2

/-! ### What answers, and what stands below -/
def bit (x : Mv) : Bool := decide (0 < x.id) && decide (x.arg = 0)
theorem told_sub {a : Are} (_hr : Right a) {id arg kind : Int} {x : Mv} (h : x ∈ toldAt a id arg kind) : x ∈ cellAt a x.id x.arg ∧ x.id = id ∧ x.arg = arg ∧ x.kind = 3 := by
  obtain ⟨rfl, rfl, h3⟩ := toldAt_of x h
  refine ⟨?_, rfl, rfl, h3⟩
  unfold cellAt
  refine List.mem_append_right _ ?_
  unfold toldAt at *
  cases hp : placeOf a x.id x.arg with
  | none => rw [hp] at h; exact h
  | some b =>
    rw [hp] at h
    simp only at h ⊢
    rw [if_pos trivial]
    by_cases hk : kind = 1
    · rw [if_pos hk] at h; exact h
    · rw [if_neg hk] at h
      have hsub : ∀ (p : Pl) (v u k : Nat), v ≤ u → ∀ y ∈ valsFrom p 3 k v, y ∈ valsFrom p 3 k u := fun p v => by
        induction v with
        | zero => intro u k _ y hy; cases hy
        | succ v ih =>
          intro u k hu y hy
          obtain ⟨u, rfl⟩ : ∃ u', u = u' + 1 := ⟨u - 1, by omega⟩
          rcases List.mem_cons.1 hy with rfl | hy
          · exact List.mem_cons_self
          · exact List.mem_cons_of_mem _ (ih u (k + 1) (by omega) y hy)
      rcases List.mem_append.1 h with h | h
      · exact List.mem_append_left _ h
      · exact List.mem_append_right _ (hsub _ _ _ _ (by omega) x h)
theorem below_args_of {a : Are} {id : Int} : ∀ (n j : Nat), ∀ x ∈ belowArgs a id j n, x.id = id ∧ 0 < x.arg ∧ (x.kind = 1 ∨ x.kind = 2) ∧ x ∈ cellAt a x.id x.arg
  | 0, _, x, h => by cases h
  | n + 1, j, x, h => by
    rw [belowArgs] at h
    rcases List.mem_append.1 h with h | h
    · obtain ⟨h1, h2, h3⟩ := questionsAt_of x h
      subst h1
      refine ⟨rfl, by omega, h3, ?_⟩
      unfold cellAt
      rw [h2]
      exact List.mem_append_left _ h
    · exact below_args_of n (j + 1) x h
theorem below_ids_of {a : Are} : ∀ (n i : Nat), ∀ x ∈ belowIds a i n, 0 < x.id ∧ x.arg = 0 ∧ (x.kind = 1 ∨ x.kind = 2) ∧ x ∈ cellAt a x.id x.arg
  | 0, _, x, h => by cases h
  | n + 1, i, x, h => by
    rw [belowIds] at h
    rcases List.mem_append.1 h with h | h
    · obtain ⟨h1, h2, h3⟩ := questionsAt_of x h
      refine ⟨by omega, h2, h3, ?_⟩
      unfold cellAt
      rw [h1, h2]
      exact List.mem_append_left _ h
    · exact below_ids_of n (i + 1) x h
theorem below_of {a : Are} {m x : Mv} (h : x ∈ belowOf a m) : bit x = !bit m ∧ (x.kind = 1 ∨ x.kind = 2) ∧ x ∈ cellAt a x.id x.arg := by
  unfold belowOf at h
  unfold bit
  by_cases hm : 0 < m.id ∧ m.arg = 0
  · rw [if_pos hm] at h
    obtain ⟨h1, h2, h3, h4⟩ := below_args_of _ _ x h
    refine ⟨?_, h3, h4⟩
    rw [decide_eq_true hm.1, decide_eq_true hm.2, decide_eq_false (show ¬ x.arg = 0 by omega), Bool.and_false]; rfl
  · rw [if_neg hm] at h
    obtain ⟨h1, h2, h3, h4⟩ := below_ids_of _ _ x h
    refine ⟨?_, h3, h4⟩
    rw [decide_eq_true h1, decide_eq_true h2]
    by_cases h5 : 0 < m.id
    · rw [decide_eq_true h5, decide_eq_false (fun e => hm ⟨h5, e⟩)]; rfl
    · rw [decide_eq_false h5]; rfl
end Go.Proofs.YtbfpgjnagpcbeaaGreatDoor.Ar
