/-
  PLAIN: the moves of the arena of what stands for an identifier.
-/
import Derived.Test.YtohjchbfcgecjaaGreatDoorDs
namespace Go.Proofs.YtohjchbfcgecjaaGreatDoor.Ar

/-- A move of an identifier, in the arena of what stands for it. -/
def down (x : Mv) : Mv := ⟨x.arg, 0, x.kind, x.n⟩

section
variable {a : Are} {k : Nat} {t : Ty}
theorem innerErr_zero (hc : checkOf a = 0) (ht : a.ids[k]? = some t) : innerErr a ((k : Int) + 1) = 0 := by
  unfold innerErr
  rw [if_pos hc, at_of, placeOf_id ht]
  simp only [Option.map_some]
  rw [if_pos]
  unfold isId
  simp only [Bool.and_eq_true, decide_eq_true_eq]
  exact ⟨by omega, trivial⟩
theorem innerRes_of (hc : checkOf a = 0) (ht : a.ids[k]? = some t) : innerRes a ((k : Int) + 1) = innerOf a t := by
  unfold innerRes
  rw [if_pos (innerErr_zero hc ht), show ((k : Int) + 1 - 1).toNat = k by omega, ht]
theorem inner_ids_at (j : Nat) : (innerOf a t).ids[j]? = (t.params[j]?).map aloneTy := by
  unfold innerOf
  rw [List.getElem?_map]
theorem inner_place (ht : a.ids[k]? = some t) (j : Nat) : placeOf (innerOf a t) j 0 = placeOf a ((k : Int) + 1) j := by
  cases j with
  | zero =>
    rw [show ((0 : Nat) : Int) = 0 from rfl, placeOf_zero, placeOf_id ht]; rfl
  | succ j =>
    rw [show ((j + 1 : Nat) : Int) = (j : Int) + 1 by omega]
    by_cases hj : j < t.params.length
    · obtain ⟨b, hb⟩ : ∃ b, t.params[j]? = some b := ⟨_, List.getElem?_eq_getElem hj⟩
      rw [placeOf_arg ht hb, placeOf_id (t := aloneTy b) (by rw [inner_ids_at, hb]; rfl)]
      rfl
    · rw [placeOf_past ht (by omega)]
      have hl : (innerOf a t).ids.length = t.params.length := by unfold innerOf; exact List.length_map _
      unfold placeOf
      rw [if_neg (by omega), if_pos (.inr (by rw [hl]; omega))]
theorem inner_arg (j r : Nat) : placeOf (innerOf a t) j ((r : Int) + 1) = none := by
  unfold placeOf
  rw [if_neg (by omega)]
  split
  · rfl
  · rw [inner_ids_at]
    cases t.params[((j : Int) - 1).toNat]? with
    | none => rfl
    | some b =>
      simp only [Option.map_some]
      rw [if_neg (by omega), if_pos (.inr (by show ((0 : Nat) : Int) < _; omega))]
theorem inner_esc (ht : a.ids[k]? = some t) (j : Nat) {b : Bs} (hb : placeOf a ((k : Int) + 1) j = some b) : escapesOf (innerOf a t) j 0 = escapesOf a ((k : Int) + 1) j := by
  unfold escapesOf
  rw [manyOf_at ht]
  have hj : (innerOf a t).jumps = (a.jumps || decide (0 < t.params.length)) := rfl
  rw [hj]
  cases j with
  | zero =>
    have e1 : decide (0 < (k : Int) + 1) = true := decide_eq_true (by omega)
    rw [e1]
    simp
  | succ j =>
    have hl : 0 < t.params.length := by
      by_cases h : j < t.params.length
      · omega
      · rw [show ((j + 1 : Nat) : Int) = (j : Int) + 1 by omega, placeOf_past ht (by omega)] at hb
        cases hb
    have e2 : decide (0 < ((j + 1 : Nat) : Int)) = true := decide_eq_true (by omega)
    have e3 : decide (0 < t.params.length) = true := decide_eq_true hl
    rw [e2, e3]
    simp
theorem vals_down (b : Bs) (id arg : Int) (e : Bool) (kind : Int) : ∀ m i, (valsFrom ⟨b, id, arg, e⟩ kind i m).map down = valsFrom ⟨b, arg, 0, e⟩ kind i m
  | 0, _ => rfl
  | m + 1, i => by
    rw [valsFrom, List.map_cons, vals_down b id arg e kind m (i + 1)]; rfl
theorem moves_down (b : Bs) (id arg : Int) (e : Bool) : (movesOf ⟨b, id, arg, e⟩).map down = movesOf ⟨b, arg, 0, e⟩ := by
  unfold movesOf questionsOf answersOf tellsOf putsOf escOf
  simp only [List.map_append, List.map_cons, vals_down]
  congr 1
  · congr 1
    split
    · exact vals_down b id arg e 2 _ _
    · rfl
  · congr 1
    split <;> rfl
theorem inner_cell (ht : a.ids[k]? = some t) (j : Nat) : cellAt (innerOf a t) j 0 = (cellAt a ((k : Int) + 1) j).map down := by
  cases h : placeOf a ((k : Int) + 1) j with
  | none => rw [cell_none h, cell_none ((inner_place ht j).trans h)]; rfl
  | some b => rw [cell_some h, cell_some ((inner_place ht j).trans h), inner_esc ht j h, moves_down]
theorem inner_args (j : Nat) : ∀ n, argsTo (innerOf a t) j (n + 1) = cellAt (innerOf a t) j 0
  | 0 => by rw [argsTo, argsTo, List.nil_append]; rfl
  | n + 1 => by
    rw [argsTo, inner_args j n, cell_none (id := (j : Int)) (arg := ((n + 1 : Nat) : Int)) (by rw [show ((n + 1 : Nat) : Int) = (n : Int) + 1 by omega]; exact inner_arg j n), List.append_nil]
theorem inner_ids (ht : a.ids[k]? = some t) : ∀ n, idsTo (innerOf a t) n = (argsTo a ((k : Int) + 1) n).map down
  | 0 => rfl
  | n + 1 => by
    rw [idsTo, inner_ids ht n, inner_args n 5, inner_cell ht n, argsTo, List.map_append]
theorem args_past (ht : a.ids[k]? = some t) : ∀ d, argsTo a ((k : Int) + 1) (t.params.length + 1 + d) = argsTo a ((k : Int) + 1) (t.params.length + 1)
  | 0 => rfl
  | d + 1 => by
    rw [show t.params.length + 1 + (d + 1) = (t.params.length + 1 + d) + 1 by omega, argsTo, args_past ht d, show ((t.params.length + 1 + d : Nat) : Int) = ((t.params.length + d : Nat) : Int) + 1 by omega, cell_none (placeOf_past ht (by omega)), List.append_nil]
theorem inner_right (hr : Right a) (ht : a.ids[k]? = some t) : Right (innerOf a t) := by
  have hm := List.mem_of_getElem? ht
  have h5 := hr.long t hm
  have hal : ∀ u ∈ (innerOf a t).ids, ∃ b ∈ t.params, aloneTy b = u := fun u hu => List.mem_map.1 hu
  refine ⟨?_, ?_, hr.result t hm, ?_, ?_, ?_⟩
  · unfold innerOf; rw [List.length_map]; omega
  · intro u hu; obtain ⟨b, _, rfl⟩ := hal u hu; exact Nat.zero_le _
  · intro u hu; obtain ⟨b, hb, rfl⟩ := hal u hu; exact hr.params t hm b hb
  · intro u hu b hb; obtain ⟨c, _, rfl⟩ := hal u hu; cases hb
  · intro u hu _; obtain ⟨b, _, rfl⟩ := hal u hu; rfl
theorem wrongBase_ok {b : Bs} (h : 1 ≤ b.n ∧ b.n ≤ 64) : wrongBase b = false := by
  unfold wrongBase
  rw [decide_eq_false (by omega), decide_eq_false (by omega)]; rfl
theorem check_right (h : Right a) : checkOf a = 0 := by
  unfold checkOf
  rw [if_neg, if_neg]
  · rintro (e | e)
    · rw [wrongBase_ok h.root] at e; cases e
    · obtain ⟨u, hu, hw⟩ := List.any_eq_true.1 e
      unfold wrongType at hw
      simp only [Bool.or_eq_true, Bool.and_eq_true, decide_eq_true_eq] at hw
      rcases hw with (hw | hw) | ⟨h1, h2⟩
      · rw [wrongBase_ok (h.result u hu)] at hw; cases hw
      · obtain ⟨b, hb, hw⟩ := List.any_eq_true.1 hw
        rw [wrongBase_ok (h.params u hu b hb)] at hw; cases hw
      · rw [h.cells u hu h1] at h2; exact absurd h2 (Nat.lt_irrefl _)
  · rintro (e | e)
    · have := h.ids; omega
    · obtain ⟨u, hu, hw⟩ := List.any_eq_true.1 e
      unfold longType at hw
      have := of_decide_eq_true hw
      have := h.long u hu
      omega
theorem inner_all (hr : Right a) (ht : a.ids[k]? = some t) : allOf (innerOf a t) = (argsTo a ((k : Int) + 1) 6).map down := by
  have h5 := hr.long t (List.mem_of_getElem? ht)
  have hl : (innerOf a t).ids.length = t.params.length := by unfold innerOf; exact List.length_map _
  rw [← all_ids (inner_right hr ht), hl, inner_ids ht]
  have := args_past ht (5 - t.params.length)
  rw [show t.params.length + 1 + (5 - t.params.length) = 6 by omega] at this
  rw [this]
theorem ids_filter (a : Are) (k : Nat) : ∀ n, (idsTo a n).filter (fun x => decide (x.id = (k : Int) + 1)) = if k + 1 < n then argsTo a ((k : Int) + 1) 6 else []
  | 0 => by rw [if_neg (by omega)]; rfl
  | n + 1 => by
    rw [idsTo, List.filter_append, ids_filter a k n]
    by_cases hn : n = k + 1
    · subst hn
      rw [if_neg (by omega), if_pos (by omega), List.nil_append]
      have e : ((k + 1 : Nat) : Int) = (k : Int) + 1 := by omega
      rw [e]
      exact List.filter_eq_self.2 (fun x hx => decide_eq_true (args_of 6 x hx).1)
    · have h0 : (argsTo a (n : Int) 6).filter (fun x => decide (x.id = (k : Int) + 1)) = [] :=
        List.filter_eq_nil_iff.2 (fun x hx => by
          have := (args_of 6 x hx).1
          simp only [decide_eq_true_eq]
          omega)
      rw [h0, List.append_nil]
      by_cases h : k + 1 < n
      · rw [if_pos h, if_pos (by omega)]
      · rw [if_neg h, if_neg (by omega)]
theorem all_filter (hr : Right a) (ht : a.ids[k]? = some t) : (allOf a).filter (fun x => decide (x.id = (k : Int) + 1)) = argsTo a ((k : Int) + 1) 6 := by
  have hk := (List.getElem?_eq_some_iff.1 ht).1
  rw [← all_ids hr, ids_filter, if_pos (by omega)]
theorem inner_small (hs : smallOf a = true) (ht : a.ids[k]? = some t) : smallOf (innerOf a t) = true := by
  obtain ⟨_, h2, h3⟩ := small_parts hs
  have hr := right_of_check h2
  have hb := inner_right hr ht
  have hl : (allOf (innerOf a t)).length ≤ 300 := by
    rw [inner_all hr ht, List.length_map, ← all_filter hr ht]
    exact Nat.le_trans (List.length_filter_le _ _) h3
  have hth : thinOf (innerOf a t) = true := by
    unfold thinOf
    rw [if_neg (by have := hb.ids; omega)]
    have : (innerOf a t).ids.any fatType = false := by
      rw [List.any_eq_false]
      intro u hu hf
      unfold fatType at hf
      have := of_decide_eq_true hf
      have := hb.long u hu
      omega
    rw [this]; rfl
  unfold smallOf
  rw [hth, check_right hb, decide_eq_true hl]; rfl
theorem down_in (hr : Right a) (ht : a.ids[k]? = some t) {x : Mv} (hx : x ∈ allOf a) (hid : x.id = (k : Int) + 1) : down x ∈ allOf (innerOf a t) ∧ findErr (innerOf a t) (down x) = 0 ∧ otherRef (down x) = !otherRef x := by
  have hm : x ∈ argsTo a ((k : Int) + 1) 6 := by
    rw [← all_filter hr ht]
    exact List.mem_filter.2 ⟨hx, decide_eq_true hid⟩
  have hin : down x ∈ allOf (innerOf a t) := by
    rw [inner_all hr ht]
    exact List.mem_map.2 ⟨x, hm, rfl⟩
  have hb := inner_right hr ht
  refine ⟨hin, in_arena (check_right hb) (all_cell hb hin), ?_⟩
  obtain ⟨_, _, h3, _⟩ := args_of 6 x hm
  unfold otherRef
  have e1 : askOf (down x) = askOf x := rfl
  have e2 : decide (0 < x.id) = true := decide_eq_true (by omega)
  have e3 : decide ((down x).arg = 0) = true := decide_eq_true rfl
  have e4 : decide (0 < (down x).id) = !decide (x.arg = 0) := by
    show decide (0 < x.arg) = _
    by_cases h : x.arg = 0
    · rw [decide_eq_true h, decide_eq_false (by omega)]; rfl
    · rw [decide_eq_false h, decide_eq_true (by omega)]; rfl
  rw [e1, e2, e3, e4]
  cases decide (x.arg = 0) <;> cases askOf x <;> rfl
end
end Go.Proofs.YtohjchbfcgecjaaGreatDoor.Ar
