/-
  PLAIN: the moves of the arena of what stands for an identifier.
  PLAIN: all moves of an arena, each once; which are told of which.
-/
import Derived.Test.YtbfpgjnagpcbeaaGreatDoorDs
namespace Go.Proofs.YtbfpgjnagpcbeaaGreatDoor.Ar

/-- A move of an identifier, in the arena of what stands for it. -/
def down (x : Mv) : Mv := ⟨x.arg, 0, x.kind, x.n⟩

section
variable {a : Are} {k : Nat} {t : Ty}
theorem innerErr_zero (hc : checkOf a = 0) (ht : a.ids[k]? = some t) : innerErr a ((k : Int) + 1) = 0 := by
  unfold innerErr
  rw [if_pos hc, at_of, placeOf_id ht]
  simp only [Option.map_some]
  rw [if_pos]
  unfold isId
  simp only [Bool.and_eq_true, decide_eq_true_eq]
  exact ⟨by omega, trivial⟩
theorem innerRes_of (hc : checkOf a = 0) (ht : a.ids[k]? = some t) : innerRes a ((k : Int) + 1) = innerOf a t := by
  unfold innerRes
  rw [if_pos (innerErr_zero hc ht), show ((k : Int) + 1 - 1).toNat = k by omega, ht]
theorem inner_ids_at (j : Nat) : (innerOf a t).ids[j]? = (t.params[j]?).map aloneTy := by
  unfold innerOf
  rw [List.getElem?_map]
theorem inner_place (ht : a.ids[k]? = some t) (j : Nat) : placeOf (innerOf a t) j 0 = placeOf a ((k : Int) + 1) j := by
  cases j with
  | zero =>
    rw [show ((0 : Nat) : Int) = 0 from rfl, placeOf_zero, placeOf_id ht]; rfl
  | succ j =>
    rw [show ((j + 1 : Nat) : Int) = (j : Int) + 1 by omega]
    by_cases hj : j < t.params.length
    · obtain ⟨b, hb⟩ : ∃ b, t.params[j]? = some b := ⟨_, List.getElem?_eq_getElem hj⟩
      rw [placeOf_arg ht hb, placeOf_id (t := aloneTy b) (by rw [inner_ids_at, hb]; rfl)]
      rfl
    · rw [placeOf_past ht (by omega)]
      have hl : (innerOf a t).ids.length = t.params.length := by unfold innerOf; exact List.length_map _
      unfold placeOf
      rw [if_neg (by omega), if_pos (.inr (by rw [hl]; omega))]
theorem inner_arg (j r : Nat) : placeOf (innerOf a t) j ((r : Int) + 1) = none := by
  unfold placeOf
  rw [if_neg (by omega)]
  split
  · rfl
  · rw [inner_ids_at]
    cases t.params[((j : Int) - 1).toNat]? with
    | none => rfl
    | some b =>
      simp only [Option.map_some]
      rw [if_neg (by omega), if_pos (.inr (by show ((0 : Nat) : Int) < _; omega))]
theorem inner_esc (ht : a.ids[k]? = some t) (j : Nat) {b : Bs} (hb : placeOf a ((k : Int) + 1) j = some b) : escapesOf (innerOf a t) j 0 = escapesOf a ((k : Int) + 1) j := by
  unfold escapesOf
  rw [manyOf_at ht]
  have hj : (innerOf a t).jumps = (a.jumps || decide (0 < t.params.length)) := rfl
  rw [hj]
  cases j with
  | zero =>
    have e1 : decide (0 < (k : Int) + 1) = true := decide_eq_true (by omega)
    rw [e1]
    simp
  | succ j =>
    have hl : 0 < t.params.length := by
      by_cases h : j < t.params.length
      · omega
      · rw [show ((j + 1 : Nat) : Int) = (j : Int) + 1 by omega, placeOf_past ht (by omega)] at hb
        cases hb
    have e2 : decide (0 < ((j + 1 : Nat) : Int)) = true := decide_eq_true (by omega)
    have e3 : decide (0 < t.params.length) = true := decide_eq_true hl
    rw [e2, e3]
    simp
theorem vals_down (b : Bs) (id arg : Int) (e : Bool) (kind : Int) : ∀ m i, (valsFrom ⟨b, id, arg, e⟩ kind i m).map down = valsFrom ⟨b, arg, 0, e⟩ kind i m
  | 0, _ => rfl
  | m + 1, i => by
    rw [valsFrom, List.map_cons, vals_down b id arg e kind m (i + 1)]; rfl
theorem moves_down (b : Bs) (id arg : Int) (e : Bool) : (movesOf ⟨b, id, arg, e⟩).map down = movesOf ⟨b, arg, 0, e⟩ := by
  unfold movesOf questionsOf answersOf tellsOf putsOf escOf
  simp only [List.map_append, List.map_cons, vals_down]
  congr 1
  · congr 1
    split
    · exact vals_down b id arg e 2 _ _
    · rfl
  · congr 1
    split <;> rfl
theorem inner_cell (ht : a.ids[k]? = some t) (j : Nat) : cellAt (innerOf a t) j 0 = (cellAt a ((k : Int) + 1) j).map down := by
  cases h : placeOf a ((k : Int) + 1) j with
  | none => rw [cell_none h, cell_none ((inner_place ht j).trans h)]; rfl
  | some b => rw [cell_some h, cell_some ((inner_place ht j).trans h), inner_esc ht j h, moves_down]
theorem inner_args (j : Nat) : ∀ n, argsTo (innerOf a t) j (n + 1) = cellAt (innerOf a t) j 0
  | 0 => by rw [argsTo, argsTo, List.nil_append]; rfl
  | n + 1 => by
    rw [argsTo, inner_args j n, cell_none (id := (j : Int)) (arg := ((n + 1 : Nat) : Int)) (by rw [show ((n + 1 : Nat) : Int) = (n : Int) + 1 by omega]; exact inner_arg j n), List.append_nil]
theorem inner_ids (ht : a.ids[k]? = some t) : ∀ n, idsTo (innerOf a t) n = (argsTo a ((k : Int) + 1) n).map down
  | 0 => rfl
  | n + 1 => by
    rw [idsTo, inner_ids ht n, inner_args n 5, inner_cell ht n, argsTo, List.map_append]
theorem args_past (ht : a.ids[k]? = some t) : ∀ d, argsTo a ((k : Int) + 1) (t.params.length + 1 + d) = argsTo a ((k : Int) + 1) (t.params.length + 1)
  | 0 => rfl
  | d + 1 => by
    rw [show t.params.length + 1 + (d + 1) = (t.params.length + 1 + d) + 1 by omega, argsTo, args_past ht d, show ((t.params.length + 1 + d : Nat) : Int) = ((t.params.length + d : Nat) : Int) + 1 by omega, cell_none (placeOf_past ht (by omega)), List.append_nil]
theorem inner_right (hr : Right a) (ht : a.ids[k]? = some t) : Right (innerOf a t) := by
  have hm := List.mem_of_getElem? ht
  have h5 := hr.long t hm
  have hal : ∀ u ∈ (innerOf a t).ids, ∃ b ∈ t.params, aloneTy b = u := fun u hu => List.mem_map.1 hu
  refine ⟨?_, ?_, hr.result t hm, ?_, ?_, ?_⟩
  · unfold innerOf; rw [List.length_map]; omega
  · intro u hu; obtain ⟨b, _, rfl⟩ := hal u hu; exact Nat.zero_le _
  · intro u hu; obtain ⟨b, hb, rfl⟩ := hal u hu; exact hr.params t hm b hb
  · intro u hu b hb; obtain ⟨c, _, rfl⟩ := hal u hu; cases hb
  · intro u hu _; obtain ⟨b, _, rfl⟩ := hal u hu; rfl
theorem wrongBase_ok {b : Bs} (h : 1 ≤ b.n ∧ b.n ≤ 64) : wrongBase b = false := by
  unfold wrongBase
  rw [decide_eq_false (by omega), decide_eq_false (by omega)]; rfl
theorem check_right (h : Right a) : checkOf a = 0 := by
  unfold checkOf
  rw [if_neg, if_neg]
  · rintro (e | e)
    · rw [wrongBase_ok h.root] at e; cases e
    · obtain ⟨u, hu, hw⟩ := List.any_eq_true.1 e
      unfold wrongType at hw
      simp only [Bool.or_eq_true, Bool.and_eq_true, decide_eq_true_eq] at hw
      rcases hw with (hw | hw) | ⟨h1, h2⟩
      · rw [wrongBase_ok (h.result u hu)] at hw; cases hw
      · obtain ⟨b, hb, hw⟩ := List.any_eq_true.1 hw
        rw [wrongBase_ok (h.params u hu b hb)] at hw; cases hw
      · rw [h.cells u hu h1] at h2; exact absurd h2 (Nat.lt_irrefl _)
  · rintro (e | e)
    · have := h.ids; omega
    · obtain ⟨u, hu, hw⟩ := List.any_eq_true.1 e
      unfold longType at hw
      have := of_decide_eq_true hw
      have := h.long u hu
      omega
theorem inner_all (hr : Right a) (ht : a.ids[k]? = some t) : allOf (innerOf a t) = (argsTo a ((k : Int) + 1) 6).map down := by
  have h5 := hr.long t (List.mem_of_getElem? ht)
  have hl : (innerOf a t).ids.length = t.params.length := by unfold innerOf; exact List.length_map _
  rw [← all_ids (inner_right hr ht), hl, inner_ids ht]
  have := args_past ht (5 - t.params.length)
  rw [show t.params.length + 1 + (5 - t.params.length) = 6 by omega] at this
  rw [this]
theorem ids_filter (a : Are) (k : Nat) : ∀ n, (idsTo a n).filter (fun x => decide (x.id = (k : Int) + 1)) = if k + 1 < n then argsTo a ((k : Int) + 1) 6 else []
  | 0 => by rw [if_neg (by omega)]; rfl
  | n + 1 => by
    rw [idsTo, List.filter_append, ids_filter a k n]
    by_cases hn : n = k + 1
    · subst hn
      rw [if_neg (by omega), if_pos (by omega), List.nil_append]
      have e : ((k + 1 : Nat) : Int) = (k : Int) + 1 := by omega
      rw [e]
      exact List.filter_eq_self.2 (fun x hx => decide_eq_true (args_of 6 x hx).1)
    · have h0 : (argsTo a (n : Int) 6).filter (fun x => decide (x.id = (k : Int) + 1)) = [] :=
        List.filter_eq_nil_iff.2 (fun x hx => by
          have := (args_of 6 x hx).1
          simp only [decide_eq_true_eq]
          omega)
      rw [h0, List.append_nil]
      by_cases h : k + 1 < n
      · rw [if_pos h, if_pos (by omega)]
      · rw [if_neg h, if_neg (by omega)]
theorem all_filter (hr : Right a) (ht : a.ids[k]? = some t) : (allOf a).filter (fun x => decide (x.id = (k : Int) + 1)) = argsTo a ((k : Int) + 1) 6 := by
  have hk := (List.getElem?_eq_some_iff.1 ht).1
  rw [← all_ids hr, ids_filter, if_pos (by omega)]
theorem inner_small (hs : smallOf a = true) (ht : a.ids[k]? = some t) : smallOf (innerOf a t) = true := by
  obtain ⟨_, h2, h3⟩ := small_parts hs
  have hr := right_of_check h2
  have hb := inner_right hr ht
  have hl : (allOf (innerOf a t)).length ≤ 300 := by
    rw [inner_all hr ht, List.length_map, ← all_filter hr ht]
    exact Nat.le_trans (List.length_filter_le _ _) h3
  have hth : thinOf (innerOf a t) = true := by
    unfold thinOf
    rw [if_neg (by have := hb.ids; omega)]
    have : (innerOf a t).ids.any fatType = false := by
      rw [List.any_eq_false]
      intro u hu hf
      unfold fatType at hf
      have := of_decide_eq_true hf
      have := hb.long u hu
      omega
    rw [this]; rfl
  unfold smallOf
  rw [hth, check_right hb, decide_eq_true hl]; rfl
theorem down_in (hr : Right a) (ht : a.ids[k]? = some t) {x : Mv} (hx : x ∈ allOf a) (hid : x.id = (k : Int) + 1) : down x ∈ allOf (innerOf a t) ∧ findErr (innerOf a t) (down x) = 0 ∧ otherRef (down x) = !otherRef x := by
  have hm : x ∈ argsTo a ((k : Int) + 1) 6 := by
    rw [← all_filter hr ht]
    exact List.mem_filter.2 ⟨hx, decide_eq_true hid⟩
  have hin : down x ∈ allOf (innerOf a t) := by
    rw [inner_all hr ht]
    exact List.mem_map.2 ⟨x, hm, rfl⟩
  have hb := inner_right hr ht
  refine ⟨hin, in_arena (check_right hb) (all_cell hb hin), ?_⟩
  obtain ⟨_, _, h3, _⟩ := args_of 6 x hm
  unfold otherRef
  have e1 : askOf (down x) = askOf x := rfl
  have e2 : decide (0 < x.id) = true := decide_eq_true (by omega)
  have e3 : decide ((down x).arg = 0) = true := decide_eq_true rfl
  have e4 : decide (0 < (down x).id) = !decide (x.arg = 0) := by
    show decide (0 < x.arg) = _
    by_cases h : x.arg = 0
    · rw [decide_eq_true h, decide_eq_false (by omega)]; rfl
    · rw [decide_eq_false h, decide_eq_true (by omega)]; rfl
  rw [e1, e2, e3, e4]
  cases decide (x.arg = 0) <;> cases askOf x <;> rfl
end
end Go.Proofs.YtbfpgjnagpcbeaaGreatDoor.Ar

namespace Go.Proofs.YtbfpgjnagpcbeaaGreatDoor.Ar

theorem less_self (x : Mv) : lessOf x x = false := by
  unfold lessOf
  simp
/-- No move stands twice. -/
theorem all_once {a : Are} (hr : Right a) {i j : Nat} {x : Mv} (hi : (allOf a)[i]? = some x) (hj : (allOf a)[j]? = some x) : i = j := by
  have h := ids_asc a (a.ids.length + 1)
  rw [all_ids hr] at h
  obtain ⟨hi', ei⟩ := List.getElem?_eq_some_iff.1 hi
  obtain ⟨hj', ej⟩ := List.getElem?_eq_some_iff.1 hj
  rcases Nat.lt_trichotomy i j with hlt | heq | hgt
  · have := List.pairwise_iff_getElem.1 h i j hi' hj' hlt
    rw [ei, ej] at this
    unfold Less at this
    rw [less_self] at this; cases this
  · exact heq
  · have := List.pairwise_iff_getElem.1 h j i hj' hi' hgt
    rw [ei, ej] at this
    unfold Less at this
    rw [less_self] at this; cases this
theorem find_spec (m : Mv) : ∀ (l : List Mv) (k : Nat), 0 ≤ findFrom m k l → ∃ i : Nat, findFrom m k l = ((k + i : Nat) : Int) ∧ l[i]? = some m
  | [], k, h => by
    unfold findFrom at h; omega
  | x :: l, k, h => by
    rw [findFrom] at h ⊢
    by_cases he : mvEq x m = true
    · rw [if_pos he]
      rw [mvEq_iff, decide_eq_true_eq] at he
      exact ⟨0, rfl, by rw [he]; rfl⟩
    · rw [if_neg he] at h ⊢
      obtain ⟨i, h1, h2⟩ := find_spec m l (k + 1) h
      exact ⟨i + 1, by rw [h1]; omega, h2⟩
theorem find_mem {m : Mv} {l : List Mv} (h : m ∈ l) : 0 ≤ findFrom m 0 l := of_decide_eq_true ((find_any_of m l 0).trans (List.any_eq_true.2 ⟨_, h, mvEq_self _⟩))
theorem find_not {m : Mv} {l : List Mv} (h : m ∉ l) : findFrom m 0 l < 0 := by
  by_cases hc : 0 ≤ findFrom m 0 l
  · obtain ⟨i, _, h2⟩ := find_spec m l 0 hc
    exact absurd (List.mem_of_getElem? h2) h
  · omega
theorem all_of_cell {a : Are} {id arg : Int} {x : Mv} (h : x ∈ cellAt a id arg) : x ∈ allOf a := by
  cases hp : placeOf a id arg with
  | none => rw [cell_none hp] at h; cases h
  | some b =>
    have ha := at_of a id arg
    rw [hp, Option.map_some] at ha
    rw [cell_some hp] at h
    unfold allOf
    exact List.mem_flatMap.2 ⟨_, List.mem_of_find?_eq_some ha, h⟩
/-- What answers a move is a move, of the same place. -/
theorem ans_sub {a : Are} (hr : Right a) {m y : Mv} (h : y ∈ ansRef a m) : y ∈ allOf a ∧ y.id = m.id ∧ y.arg = m.arg ∧ y.kind = 3 := by
  unfold ansRef at h
  split at h
  · obtain ⟨h1, h2, h3, h4⟩ := told_sub hr h
    exact ⟨all_of_cell h1, h2, h3, h4⟩
  · cases h
/-- Each move is a question, or answers the first question of its place. -/
theorem all_told {a : Are} (hc : checkOf a = 0) {x : Mv} (hx : x ∈ allOf a) : askOf x = true ∨ ∃ q, q ∈ allOf a ∧ ansErr a q = 0 ∧ x ∈ ansRef a q := by
  have hr := right_of_check hc
  have hcell := all_cell hr hx
  have hcell' := hcell
  unfold cellAt at hcell
  rcases List.mem_append.1 hcell with h | h
  · obtain ⟨_, _, hk⟩ := questionsAt_of x h
    unfold askOf
    rcases hk with hk | hk
    · exact .inl (by rw [hk]; rfl)
    · exact .inl (by rw [hk]; rfl)
  · refine .inr ?_
    have hq : (⟨x.id, x.arg, 1, 0⟩ : Mv) ∈ cellAt a x.id x.arg := by
      cases hp : placeOf a x.id x.arg with
      | none => rw [cell_none hp] at hcell'; cases hcell'
      | some b =>
        rw [cell_some hp]
        unfold movesOf questionsOf
        exact List.mem_append_left _ List.mem_cons_self
    have hf : findErr a ⟨x.id, x.arg, 1, 0⟩ = 0 := in_arena hc hq
    have he : ansErr a ⟨x.id, x.arg, 1, 0⟩ = 0 := by unfold ansErr; rw [if_pos hf]; rfl
    refine ⟨⟨x.id, x.arg, 1, 0⟩, all_of_cell hq, he, ?_⟩
    unfold ansRef
    rw [if_pos he]
    exact h
theorem vals_zero (p : Pl) (kind : Int) {m : Nat} (h : 0 < m) : mvOf p kind 0 ∈ valsFrom p kind 0 m := by
  obtain ⟨m, rfl⟩ : ∃ d, m = d + 1 := ⟨m - 1, by omega⟩
  exact List.mem_cons_self
/-- The moves that any place has. -/
theorem place_has {a : Are} (hr : Right a) {id arg : Int} {b : Bs} (hp : placeOf a id arg = some b) : (⟨id, arg, 1, 0⟩ : Mv) ∈ allOf a ∧ (⟨id, arg, 3, 0⟩ : Mv) ∈ allOf a ∧ ((⟨id, arg, 2, 0⟩ : Mv) ∈ allOf a ↔ b.cell = true) := by
  obtain ⟨hb1, _⟩ := placeOf_right hr hp
  have hn : 0 < b.n.toNat := by omega
  have hc := cell_some hp
  refine ⟨all_of_cell (id := id) (arg := arg) ?_, all_of_cell (id := id) (arg := arg) ?_, fun h => ?_, fun h => all_of_cell (id := id) (arg := arg) ?_⟩
  · rw [hc]; unfold movesOf questionsOf; exact List.mem_append_left _ List.mem_cons_self
  · rw [hc]; unfold movesOf answersOf tellsOf
    exact List.mem_append_right _ (List.mem_append_right _ (vals_zero _ 3 hn))
  · have h1 := all_cell hr h
    simp only at h1
    rw [hc] at h1
    unfold movesOf at h1
    rcases List.mem_append.1 h1 with h2 | h2
    · unfold questionsOf at h2
      rcases List.mem_cons.1 h2 with h3 | h3
      · cases h3
      · unfold putsOf at h3
        split at h3
        · rename_i hcell; exact hcell
        · cases h3
    · have := (tells_of _ _ _ h2).2.2
      cases this
  · rw [hc]; unfold movesOf questionsOf putsOf
    refine List.mem_append_left _ (List.mem_cons_of_mem _ ?_)
    rw [if_pos h]
    exact vals_zero _ 2 hn
/-- The marks that the first rounds have set: of each question among the first moves, and of what answers it. -/
def Marks (a : Are) (i : Nat) (F : Nat → Bool) : Prop := ∀ (i' j : Nat) (x y : Mv), i' < i → (allOf a)[i']? = some x → (allOf a)[j]? = some y → ansErr a x = 0 → (j = i' ∨ y ∈ ansRef a x) → F j = true
theorem marks_zero (a : Are) (F : Nat → Bool) : Marks a 0 F := fun _ _ _ _ h => absurd h (Nat.not_lt_zero _)
theorem marks_skip {a : Are} {i : Nat} {F : Nat → Bool} {x : Mv} (h : Marks a i F) (hx : (allOf a)[i]? = some x) (he : ansErr a x ≠ 0) : Marks a (i + 1) F := by
  intro i' j x' y hi hx' hy h0 hor
  rcases Nat.lt_or_ge i' i with hl | hl
  · exact h i' j x' y hl hx' hy h0 hor
  · obtain rfl : i' = i := by omega
    rw [hx] at hx'
    obtain rfl := Option.some.inj hx'
    exact absurd h0 he
/-- The same, in the midst of a question's answers. -/
def MarksIn (a : Are) (i : Nat) (x : Mv) (k : Nat) (F : Nat → Bool) : Prop := Marks a i F ∧ F i = true ∧ ∀ (n j : Nat) (y : Mv), n < k → (ansRef a x)[n]? = some y → (allOf a)[j]? = some y → F j = true
def put (F : Nat → Bool) (i : Nat) : Nat → Bool := fun j => if j = i then true else F j
theorem put_same (F : Nat → Bool) (i : Nat) : put F i i = true := if_pos rfl
theorem put_keep {F : Nat → Bool} {i j : Nat} (h : F j = true) : put F i j = true := by
  unfold put
  split
  · rfl
  · exact h
theorem marks_in {a : Are} {i : Nat} {x : Mv} {F : Nat → Bool} (h : Marks a i F) : MarksIn a i x 0 (put F i) :=
  ⟨fun i' j x' y hi h1 h2 h3 h4 => put_keep (h i' j x' y hi h1 h2 h3 h4), put_same F i, fun _ _ _ h => absurd h (Nat.not_lt_zero _)⟩
theorem marks_step {a : Are} {i k t : Nat} {x y : Mv} {F : Nat → Bool} (hr : Right a) (h : MarksIn a i x k F) (hy : (ansRef a x)[k]? = some y) (ht : (allOf a)[t]? = some y) : MarksIn a i x (k + 1) (put F t) := by
  refine ⟨fun i' j x' y' hi h1 h2 h3 h4 => put_keep (h.1 i' j x' y' hi h1 h2 h3 h4), put_keep h.2.1, fun n j y' hn h1 h2 => ?_⟩
  rcases Nat.lt_or_ge n k with hl | hl
  · exact put_keep (h.2.2 n j y' hl h1 h2)
  · obtain rfl : n = k := by omega
    rw [hy] at h1
    obtain rfl := Option.some.inj h1
    obtain rfl := all_once hr h2 ht
    exact put_same F _
theorem marks_out {a : Are} {i : Nat} {x : Mv} {F : Nat → Bool} (h : MarksIn a i x (ansRef a x).length F) (hx : (allOf a)[i]? = some x) : Marks a (i + 1) F := by
  intro i' j x' y hi hx' hy h0 hor
  rcases Nat.lt_or_ge i' i with hl | hl
  · exact h.1 i' j x' y hl hx' hy h0 hor
  · obtain rfl : i' = i := by omega
    rw [hx] at hx'
    obtain rfl := Option.some.inj hx'
    rcases hor with rfl | hm
    · exact h.2.1
    · obtain ⟨n, hn⟩ := List.getElem?_of_mem hm
      exact h.2.2 n j y (List.getElem?_eq_some_iff.1 hn).1 hn hy
theorem marks_all {a : Are} {F : Nat → Bool} (hc : checkOf a = 0) (h : Marks a (allOf a).length F) {j : Nat} (hj : j < (allOf a).length) : F j = true := by
  obtain ⟨y, hy⟩ : ∃ y, (allOf a)[j]? = some y := ⟨_, List.getElem?_eq_getElem hj⟩
  have hm := List.mem_of_getElem? hy
  have hr := right_of_check hc
  rcases all_told hc hm with ha | ⟨q, hq, he, hqm⟩
  · have hf : findErr a y = 0 := in_arena hc (all_cell hr hm)
    have he : ansErr a y = 0 := by unfold ansErr; rw [if_pos hf, if_pos ha]
    exact h j j y y hj hy hy he (.inl rfl)
  · obtain ⟨i, hi⟩ := List.getElem?_of_mem hq
    exact h i j q y (List.getElem?_eq_some_iff.1 hi).1 hi hy he (.inr hqm)
theorem find_nat {m : Mv} {l : List Mv} (h : m ∈ l) : ∃ t : Nat, findFrom m 0 l = (t : Int) ∧ t < l.length ∧ l[t]? = some m := by
  obtain ⟨i, h1, h2⟩ := find_spec m l 0 (find_mem h)
  exact ⟨i, by rw [h1, Nat.zero_add], (List.getElem?_eq_some_iff.1 h2).1, h2⟩
/-- What the look at a place comes to. -/
theorem place_fits {a : Are} (hc : checkOf a = 0) {id arg : Int} (he : placeErr a id arg = 0) : 0 ≤ findFrom ⟨id, arg, 1, 0⟩ 0 (allOf a) ∧ 0 ≤ findFrom ⟨id, arg, 3, 0⟩ 0 (allOf a) ∧ (decide (0 ≤ findFrom ⟨id, arg, 2, 0⟩ 0 (allOf a)) = (placeRes a id arg).cell) := by
  have hr := right_of_check hc
  have hb : placeOf a id arg = some (placeRes a id arg) := by
    have ha := at_of a id arg
    unfold placeErr at he
    unfold placeRes
    rw [if_pos hc] at he ⊢
    cases hat : atOf a id arg with
    | none => rw [hat] at he; cases he
    | some p =>
      rw [hat] at ha
      cases hp : placeOf a id arg with
      | none => rw [hp] at ha; cases ha
      | some b =>
        rw [hp, Option.map_some] at ha
        obtain rfl := Option.some.inj ha
        rfl
  obtain ⟨h1, h2, h3⟩ := place_has hr hb
  refine ⟨find_mem h1, find_mem h2, ?_⟩
  cases hcell : (placeRes a id arg).cell
  · have hn : (⟨id, arg, 2, 0⟩ : Mv) ∉ allOf a := fun h => by rw [h3.1 h] at hcell; cases hcell
    have := find_not hn
    rw [decide_eq_false_iff_not]; omega
  · exact decide_eq_true (find_mem (h3.2 hcell))
end Go.Proofs.YtbfpgjnagpcbeaaGreatDoor.Ar
