/-
  WALKS: lists of moves read; the reference's questions of a place.
  WALKS: the reference: whose a move is, whether a question can be escaped, the questions of a place.
  WALKS: the reference's answers to a question of a place; whether an arena has a move.
-/
import Derived.Test.YtbfpgjnagpcbeaaGreatDoorDe
namespace Go.Proofs.YtbfpgjnagpcbeaaGreatDoor
open Go.RowKit Go.Shelf

/-- A slice of moves below block B. -/
def Mvs (W : World) (B : Nat) (A : Option Addr) (l : List Ar.Mv) : Prop := l ≠ [] → ∃ b off, A = some ⟨b, off, none⟩ ∧ b < B ∧ ∀ i x, l[i]? = some x →
  W.cell? ⟨b, off + i * 4, none⟩ = some (.int .i64 x.id) ∧ W.cell? ⟨b, off + i * 4 + 1, none⟩ = some (.int .i64 x.arg) ∧ W.cell? ⟨b, off + i * 4 + 2, none⟩ = some (.int .u8 x.kind) ∧ W.cell? ⟨b, off + i * 4 + 3, none⟩ = some (.int .i64 x.n)
theorem Mvs.below {W W' : World} {B : Nat} {A : Option Addr} {l : List Ar.Mv} (h : Mvs W B A l) (hb : Below B W W') : Mvs W' B A l := fun hne => by
  obtain ⟨b, off, hA, hB, hc⟩ := h hne
  refine ⟨b, off, hA, hB, fun i x hx => ?_⟩
  obtain ⟨h0, h1, h2, h3⟩ := hc i x hx
  exact ⟨(hb.cell (p := ⟨b, _, none⟩) hB).trans h0, (hb.cell (p := ⟨b, _, none⟩) hB).trans h1, (hb.cell (p := ⟨b, _, none⟩) hB).trans h2, (hb.cell (p := ⟨b, _, none⟩) hB).trans h3⟩
theorem Mvs.mono {W : World} {B B' : Nat} {A : Option Addr} {l : List Ar.Mv} (h : Mvs W B A l) (hB : B ≤ B') : Mvs W B' A l := fun hne => by
  obtain ⟨b, off, hA, hb, hc⟩ := h hne; exact ⟨b, off, hA, by omega, hc⟩
theorem Mvs.next {W W' : World} {A : Option Addr} {l : List Ar.Mv} (h : Mvs W W.heap.size A l) (hb : Below W.heap.size W W') : Mvs W' W'.heap.size A l := (h.below hb).mono hb.size
theorem mvs_of_own {W : World} {n₀ c k : Nat} {A : Option Addr} {l : List Ar.Mv} (h : W.ownsRow n₀ 40 4 (.slice A k c) l.length (mvsCells l)) : Mvs W W.heap.size A l := fun hne => by
  have hn : 0 < l.length := List.length_pos_iff.2 hne
  obtain ⟨g, rfl, _, hlt, hc⟩ := own_cell h hn
  refine ⟨g, 0, rfl, hlt, fun i x hi => ?_⟩
  have hf := flat_get (f := mvCells) (s := 4) (fun _ => rfl) l i x hi
  simp only [Nat.zero_add]
  exact ⟨hc _ _ (hf 0 (by omega)), hc _ _ (hf 1 (by omega)), hc _ _ (hf 2 (by omega)), hc _ _ (hf 3 (by omega))⟩
theorem mvsCells_len (l : List Ar.Mv) : (mvsCells l).length = l.length * 4 := by
  induction l with
  | nil => rfl
  | cons x l ih => rw [mvsCells, List.flatMap_cons, List.length_append, ← mvsCells, ih, List.length_cons]; show 4 + _ = _; omega
theorem mvsCells_one (l : List Ar.Mv) : ∀ u ∈ mvsCells l, u.oneCell' = true := fun u hu => by
  obtain ⟨x, _, hx⟩ := List.mem_flatMap.1 hu
  simp only [mvCells, List.mem_cons, List.not_mem_nil, or_false] at hx
  rcases hx with rfl | rfl | rfl | rfl <;> rfl
theorem mvsCells_at {W : World} {B : Nat} {A : Option Addr} {l : List Ar.Mv} (h : Mvs W B A l) : ∀ ad, A = some ad → ∀ j u, (mvsCells l)[j]? = some u → W.cell? (ad.add j) = some u := fun ad hA j u hu => by
  have hj : j < l.length * 4 := by have := (List.getElem?_eq_some_iff.1 hu).1; rw [mvsCells_len] at this; exact this
  have hne : l ≠ [] := by intro e; subst e; simp at hj
  obtain ⟨b, off, hA', _, hc⟩ := h hne
  rw [hA'] at hA
  cases hA
  have hlt : j / 4 < l.length := by omega
  obtain ⟨x, hx⟩ : ∃ x, l[j / 4]? = some x := ⟨_, List.getElem?_eq_getElem hlt⟩
  obtain ⟨c0, c1, c2, c3⟩ := hc _ x hx
  rw [show (⟨b, off, none⟩ : Addr).add j = ⟨b, off + j, none⟩ by unfold Addr.add; split <;> simp_all]
  have hf := flat_get (f := mvCells) (s := 4) (fun _ => rfl) l (j / 4) x hx (j % 4) (by omega)
  rw [show j / 4 * 4 + j % 4 = j by omega] at hf
  have hu' : (l.flatMap mvCells)[j]? = some u := hu
  rw [hu'] at hf
  have h4 : j % 4 = 0 ∨ j % 4 = 1 ∨ j % 4 = 2 ∨ j % 4 = 3 := by omega
  rcases h4 with h2 | h2 | h2 | h2
  · rw [h2] at hf
    rw [show off + j / 4 * 4 = off + j by omega] at c0
    rw [c0]; exact hf.symm
  · rw [h2] at hf
    rw [show off + j / 4 * 4 + 1 = off + j by omega] at c1
    rw [c1]; exact hf.symm
  · rw [h2] at hf
    rw [show off + j / 4 * 4 + 2 = off + j by omega] at c2
    rw [c2]; exact hf.symm
  · rw [h2] at hf
    rw [show off + j / 4 * 4 + 3 = off + j by omega] at c3
    rw [c3]; exact hf.symm

theorem mvEq_self (x : Ar.Mv) : mvEq x x = true := by rw [mvEq_iff]; exact decide_eq_true rfl
set_option maxRecDepth 100000 in
set_option maxHeartbeats 4000000 in
theorem sameWord_any (l : List Ar.Mv) (A B : Option Addr) (c d : Nat) (w : World) (hl : l.length ≤ 1000000) (hA : Mvs w w.heap.size A l) (hC : Mvs w w.heap.size B l) :
    Calls Tryz.prog 25 #[.slice A l.length c, .slice B l.length d] w fun e w' => e = .returned (.bool true) ∧ Below w.heap.size w w' := by
  have HA := Lib.hid hA; have HC := Lib.hid hC
  have qg : ∀ (x y : Operand) (xs ys : Array Value) (w : World), (eqGuard .neq 40 x y (.agg xs) (.agg ys)).run Tryz.prog w = .ok () w := fun x y xs ys w => run_eqGuard_agg w _ _ x y xs ys (by kernel_rfl)
  have hn2 : ((l.length : Int) != (l.length : Int)) = false := by rw [bne_eq_false_iff_eq]
  clear hA hC
  go_enter Tryz.func25, Tryz.ntmps25
  go_wp2
  go_loopw [5] (fun i wr => ∃ k : Nat, k ≤ l.length ∧ i = .int .i64 k ∧ Hid (Below w.heap.size w wr)) (fun i _ => l.length - (intOf i).toNat)
  case atStart => exact ⟨0, Nat.zero_le _, rfl, Below.refl _ _⟩
  case round =>
    obtain ⟨k, hk, rfl, hB⟩ := hrel
    by_cases hlt : k < l.length
    · obtain ⟨x, hx⟩ : ∃ x, l[k]? = some x := ⟨_, List.getElem?_eq_getElem hlt⟩
      obtain ⟨b, off, hAe, hbB, hc⟩ := (HA.out.below hB.out) (by intro e; rw [e] at hlt; simp at hlt)
      obtain ⟨b', off', hCe, hbB', hc'⟩ := (HC.out.below hB.out) (by intro e; rw [e] at hlt; simp at hlt)
      obtain ⟨c0, c1, c2, c3⟩ := hc k x hx
      obtain ⟨d0, d1, d2, d3⟩ := hc' k x hx
      have qx : ∀ W, (binOp .neq 40 (.agg #[.int .i64 x.id, .int .i64 x.arg, .int .u8 x.kind, .int .i64 x.n]) (.agg #[.int .i64 x.id, .int .i64 x.arg, .int .u8 x.kind, .int .i64 x.n])).run Tryz.prog W = .ok (.bool false) W := fun W => by rw [run_neq_mv, mvEq_self]; rfl
      clear hx hc hc'
      subst hAe hCe
      go_wp2
      go_quiet (fail)
      go_wp2
      go_roundw
      case rel => exact ⟨k + 1, by omega, by go_num, below_drewN hB.out _⟩
      case measure => simp [intOf]; omega
    · obtain rfl : k = l.length := by omega
      go_wp2
      go_ret
      exact ⟨rfl, hB.out⟩

namespace Ar
/-- The first place of a move, from the k-th on; -1 if it is not there. -/
def findFrom (m : Mv) : Nat → List Mv → Int
  | _, [] => -1
  | k, x :: l => if mvEq x m = true then (k : Int) else findFrom m (k + 1) l
theorem find_any_of (m : Mv) : ∀ (l : List Mv) (k : Nat), decide (0 ≤ findFrom m k l) = l.any fun x => mvEq x m
  | [], k => rfl
  | x :: l, k => by
    rw [findFrom, List.any_cons]
    cases h : mvEq x m
    · rw [if_neg Bool.false_ne_true, find_any_of m l (k + 1), Bool.false_or]
    · rw [if_pos rfl, Bool.true_or]; exact decide_eq_true (by omega)
end Ar
set_option maxRecDepth 100000 in
set_option maxHeartbeats 4000000 in
theorem refFind_any (l : List Ar.Mv) (A : Option Addr) (c : Nat) (m : Ar.Mv) (w : World) (hl : l.length ≤ 1000000) (hA : Mvs w w.heap.size A l) :
    Calls Tryz.prog 53 #[.slice A l.length c, .agg #[.int .i64 m.id, .int .i64 m.arg, .int .u8 m.kind, .int .i64 m.n]] w fun e w' => e = .returned (.int .i64 (Ar.findFrom m 0 l)) ∧ Below w.heap.size w w' := by
  have HA := Lib.hid hA
  have qg : ∀ (x y : Operand) (xs ys : Array Value) (w : World), (eqGuard .eql 40 x y (.agg xs) (.agg ys)).run Tryz.prog w = .ok () w := fun x y xs ys w => run_eqGuard_agg w _ _ x y xs ys (by kernel_rfl)
  obtain ⟨R, hR⟩ : ∃ R, Ar.findFrom m 0 l = R := ⟨_, rfl⟩
  rw [hR]
  have HR := Lib.hid hR
  have h1 := Lib.hid (World.alloc_heap_new w (mvO m))
  have hB0 : Hid (Below w.heap.size w (w.alloc (mvO m))) := (Below.refl _ _).alloc (Nat.le_refl _) _
  unfold mvO at h1 hB0
  clear hA hR
  go_enter Tryz.func53, Tryz.ntmps53
  go_wp2
  go_loopw [5] (fun i wr => ∃ k : Nat, k ≤ l.length ∧ i = .int .i64 k ∧ Hid (R = Ar.findFrom m k (l.drop k)) ∧ Hid (Below w.heap.size w wr) ∧ Hid (wr.heap[w.heap.size]? = some (.cells #[.int .i64 m.id, .int .i64 m.arg, .int .u8 m.kind, .int .i64 m.n] 40 (0, 0)))) (fun i _ => l.length - (intOf i).toNat)
  case atStart => exact ⟨0, Nat.zero_le _, rfl, HR.out.symm, hB0.out, h1.out⟩
  case round =>
    obtain ⟨k, hk, rfl, hr, hB, hb⟩ := hrel
    obtain ⟨e0, e1, e2, e3, -, -, -, -⟩ := cells4 hb.out
    by_cases hlt : k < l.length
    · obtain ⟨x, hx⟩ : ∃ x, l[k]? = some x := ⟨_, List.getElem?_eq_getElem hlt⟩
      obtain ⟨b, off, hAe, hbB, hc⟩ := (HA.out.below hB.out) (by intro e; rw [e] at hlt; simp at hlt)
      obtain ⟨c0, c1, c2, c3⟩ := hc k x hx
      have hr' := hr.out
      rw [Ar.drop_of_get hx, Ar.findFrom] at hr'
      have qe := fun W => run_eql_mv W x m
      clear hx hc hr
      subst hAe
      cases hE : mvEq x m
      · rw [hE] at hr'
        simp only [hE] at qe
        rw [if_neg Bool.false_ne_true] at hr'
        have HQ := Lib.hid hr'
        clear hr' hE
        go_wp2
        go_quiet (fail)
        go_wp2
        go_roundw
        case rel => exact ⟨k + 1, by omega, by go_num, HQ.out, below_drewN hB.out _, hb.out⟩
        case measure => simp [intOf]; omega
      · rw [hE] at hr'
        simp only [hE] at qe
        rw [if_pos rfl] at hr'
        have HQ := Lib.hid hr'
        clear hr' hE
        go_wp2
        go_quiet (fail)
        go_wp2
        go_ret
        exact ⟨ret_int HQ.out.symm, below_drewN hB.out _⟩
    · obtain rfl : k = l.length := by omega
      have hr' := hr.out
      rw [List.drop_length, Ar.findFrom] at hr'
      have HQ := Lib.hid hr'
      clear hr hr'
      go_wp2
      go_ret
      exact ⟨ret_int HQ.out.symm, hB.out⟩

namespace Ar
def askOf (m : Mv) : Bool := decide (m.kind = 1) || decide (m.kind = 2)
def otherRef (m : Mv) : Bool := (decide (0 < m.id) && decide (m.arg = 0)) != askOf m
end Ar
set_option maxRecDepth 100000 in
set_option maxHeartbeats 1000000 in
theorem refAsk_any (m : Ar.Mv) (w : World) : Calls Tryz.prog 81 #[.agg #[.int .i64 m.id, .int .i64 m.arg, .int .u8 m.kind, .int .i64 m.n]] w fun e w' => e = .returned (.bool (Ar.askOf m)) ∧ Below w.heap.size w w' := by
  have hB0 : Hid (Below w.heap.size w (w.alloc (mvO m))) := (Below.refl _ _).alloc (Nat.le_refl _) _
  unfold mvO at hB0
  by_cases h1 : m.kind = 1
  · have HQ : Hid (Ar.askOf m = true) := by rw [Hid, Ar.askOf, decide_eq_true h1]; rfl
    have hd : (m.kind == 1) = true := by rw [beq_iff_eq]; exact h1
    clear h1
    go_enter Tryz.func81, Tryz.ntmps81
    go_wp2
    all_goals
      go_ret
      exact ⟨ret_bool (by rw [HQ.out]), hB0.out⟩
  · have HQ : Hid (Ar.askOf m = decide (m.kind = 2)) := by rw [Hid, Ar.askOf, decide_eq_false h1]; rfl
    have hd : (m.kind == 1) = false := by rw [beq_eq_false_iff_ne]; exact h1
    have hd2 : (m.kind == 2) = decide (m.kind = 2) := by
      by_cases h : m.kind = 2
      · rw [decide_eq_true h, beq_iff_eq]; exact h
      · rw [decide_eq_false h, beq_eq_false_iff_ne]; exact h
    have HD2 := Lib.hid hd2
    clear h1 hd2
    go_enter Tryz.func81, Tryz.ntmps81
    go_wp2
    all_goals
      go_ret
      exact ⟨ret_bool (by rw [HQ.out, ← HD2.out]), hB0.out⟩
end Go.Proofs.YtbfpgjnagpcbeaaGreatDoor

namespace Go.Proofs.YtbfpgjnagpcbeaaGreatDoor
open Go.RowKit Go.Shelf

theorem eq0_dec (x : Int) : (x == 0) = decide (x = 0) := by
  by_cases h : x = 0
  · rw [decide_eq_true h, beq_iff_eq]; exact h
  · rw [decide_eq_false h, beq_eq_false_iff_ne]; exact h
/-- A move in the first block of a call's own. -/
def OB (w : World) (m : Ar.Mv) (W : World) : Prop := Below w.heap.size w W ∧ W.cell? ⟨w.heap.size, 0, none⟩ = some (.int .i64 m.id) ∧ W.cell? ⟨w.heap.size, 1, none⟩ = some (.int .i64 m.arg) ∧ W.cell? ⟨w.heap.size, 2, none⟩ = some (.int .u8 m.kind) ∧ W.cell? ⟨w.heap.size, 3, none⟩ = some (.int .i64 m.n)
theorem OB.next {w W W' : World} {m : Ar.Mv} (h : OB w m W) (hB : Below W.heap.size W W') : OB w m W' := by
  obtain ⟨h0, x0, x1, x2, x3⟩ := h
  exact ⟨h0.trans (hB.mono h0.size), keep_cell hB x0, keep_cell hB x1, keep_cell hB x2, keep_cell hB x3⟩
set_option maxRecDepth 100000 in
set_option maxHeartbeats 4000000 in
theorem refIsOther_any (m : Ar.Mv) (w : World) : Calls Tryz.prog 80 #[.agg #[.int .i64 m.id, .int .i64 m.arg, .int .u8 m.kind, .int .i64 m.n]] w fun e w' => e = .returned (.bool (Ar.otherRef m)) ∧ Below w.heap.size w w' := by
  have h1 := Lib.hid (World.alloc_heap_new w (mvO m))
  have hB0 : Hid (Below w.heap.size w (w.alloc (mvO m))) := (Below.refl _ _).alloc (Nat.le_refl _) _
  have HQ := Lib.hid (fun W => refAsk_any m W)
  have hor : Ar.otherRef m = ((decide (0 < m.id) && decide (m.arg = 0)) != Ar.askOf m) := rfl
  generalize Ar.askOf m = AK at *
  unfold mvO at h1 hB0
  obtain ⟨e0, e1, e2, e3, -, -, -, -⟩ := cells4 h1.out
  by_cases hi : 0 < m.id
  · have hd : decide (0 < m.id) = true := decide_eq_true hi
    by_cases ha : m.arg = 0
    · have HF : Hid (Ar.otherRef m = (true != AK)) := by rw [Hid, hor, hd, decide_eq_true ha]; rfl
      have hb : (m.arg == 0) = true := by rw [eq0_dec]; exact decide_eq_true ha
      clear hor ha
      go_enter Tryz.func80, Tryz.ntmps80
      go_wp2
      go_region_law (go_simp; go_at_call 81; refine (HQ.out _).mono ?_; rintro e w4 ⟨rfl, hB4⟩; obtain ⟨x0, x1, x2, x3, -, -, -, -⟩ := cells4 ((hB4.block _ (lt_of_heap h1.out)).trans h1.out))
      all_goals go_wp2
      all_goals
        go_ret
        exact ⟨ret_bool (by rw [HF.out]; cases AK <;> rfl), hB0.out.drew.trans (hB4.mono hB0.out.size)⟩
    · have HF : Hid (Ar.otherRef m = (false != AK)) := by rw [Hid, hor, hd, decide_eq_false ha]; rfl
      have hb : (m.arg == 0) = false := by rw [eq0_dec]; exact decide_eq_false ha
      clear hor ha
      go_enter Tryz.func80, Tryz.ntmps80
      go_wp2
      go_region_law (go_simp; go_at_call 81; refine (HQ.out _).mono ?_; rintro e w4 ⟨rfl, hB4⟩; obtain ⟨x0, x1, x2, x3, -, -, -, -⟩ := cells4 ((hB4.block _ (lt_of_heap h1.out)).trans h1.out))
      all_goals go_wp2
      all_goals
        go_ret
        exact ⟨ret_bool (by rw [HF.out]; cases AK <;> rfl), hB0.out.drew.trans (hB4.mono hB0.out.size)⟩
  · have hd : decide (0 < m.id) = false := decide_eq_false hi
    have HF : Hid (Ar.otherRef m = (false != AK)) := by rw [Hid, hor, hd]; rfl
    clear hor
    go_enter Tryz.func80, Tryz.ntmps80
    go_wp2
    first
      | go_region_law (go_simp; go_at_call 81; refine (HQ.out _).mono ?_; rintro e w4 ⟨rfl, hB4⟩; obtain ⟨x0, x1, x2, x3, -, -, -, -⟩ := cells4 ((hB4.block _ (lt_of_heap h1.out)).trans h1.out))
      | fail
    all_goals go_wp2
    all_goals
      go_ret
      exact ⟨ret_bool (by rw [HF.out]; cases AK <;> rfl), hB0.out.drew.trans (hB4.mono hB0.out.size)⟩

/-- The numbers of a place. -/
def InIds (a : Ar.Are) (id : Int) : Prop := 0 < id → ∃ (k : Nat) (t : Ar.Ty), id = (k : Int) + 1 ∧ a.ids[k]? = some t
theorem Ar.placeOf_in {a : Ar.Are} {id arg : Int} {b : Ar.Bs} (h : Ar.placeOf a id arg = some b) : InIds a id := fun h0 => by
  unfold Ar.placeOf at h
  rw [if_neg (fun e => by omega)] at h
  by_cases h1 : id < 1 ∨ (a.ids.length : Int) < id
  · rw [if_pos h1] at h; cases h
  · have hk : (id - 1).toNat < a.ids.length := by omega
    exact ⟨(id - 1).toNat, a.ids[(id - 1).toNat], by omega, List.getElem?_eq_getElem hk⟩
theorem Ar.escapes_def (a : Ar.Are) (id arg : Int) : Ar.escapesOf a id arg = (decide (0 < arg) || a.jumps || (decide (0 < id) && decide (0 < Ar.manyOf a id))) := rfl
theorem Ar.manyOf_id {a : Ar.Are} {k : Nat} {t : Ar.Ty} (h : a.ids[k]? = some t) : Ar.manyOf a ((k : Int) + 1) = t.params.length := by
  unfold Ar.manyOf
  rw [show ((k : Int) + 1 - 1).toNat = k by omega, h]
set_option maxRecDepth 100000 in
set_option maxHeartbeats 4000000 in
theorem refEscapes_any (a : Ar.Are) (A : Option Addr) (c : Nat) (P : Nat → Option Addr × Nat) (id arg : Int) (w : World) (hA : ArM w A P a) (hin : InIds a id) :
    Calls Tryz.prog 122 #[.agg #[.slice A a.ids.length c, .bool a.root.cell, .int .i64 a.root.n, .bool a.jumps], .int .i64 id, .int .i64 arg] w fun e w' => e = .returned (.bool (Ar.escapesOf a id arg)) ∧ Below w.heap.size w w' := by
  have hlen := hA.len
  have h1 := Lib.hid (World.alloc_heap_new w (.cells #[.slice A a.ids.length c, .bool a.root.cell, .int .i64 a.root.n, .bool a.jumps] 26 (0, 0)))
  have hB0 : Hid (Below w.heap.size w (w.alloc (.cells #[.slice A a.ids.length c, .bool a.root.cell, .int .i64 a.root.n, .bool a.jumps] 26 (0, 0)))) := (Below.refl _ _).alloc (Nat.le_refl _) _
  obtain ⟨e0, e1, e2, e3, -, -, -, -⟩ := cells4 h1.out
  have hes := Ar.escapes_def a id arg
  have HT := Lib.hid hA
  clear hA
  by_cases ha : 0 < arg
  · have HF : Hid (Ar.escapesOf a id arg = true) := by rw [Hid, hes, decide_eq_true ha]; rfl
    have hd : decide (0 < arg) = true := decide_eq_true ha
    clear hes hin
    go_enter Tryz.func122, Tryz.ntmps122
    go_wp2
    go_ret
    exact ⟨ret_bool (by rw [HF.out]), hB0.out⟩
  · have hd : decide (0 < arg) = false := decide_eq_false ha
    rw [hd, Bool.false_or] at hes
    cases hj : a.jumps
    · rw [hj, Bool.false_or] at hes
      have HJ := Lib.hid hj
      rw [hj] at e3 hB0 h1
      clear hj
      by_cases hi : 0 < id
      · obtain ⟨k, t, rfl, ht⟩ := hin hi
        have hk := (List.getElem?_eq_some_iff.1 ht).1
        obtain ⟨b, off, hAe, hbB, hc⟩ := (HT.out.tys) (by intro e; rw [e] at hk; simp at hk)
        obtain ⟨c0, c1, c2, -⟩ := hc k t ht
        have x0 := (hB0.out.cell (p := ⟨b, off + k * 3, none⟩) hbB).trans c0
        have ht5 := HT.out.par t (List.mem_of_getElem? ht)
        have HF : Hid (Ar.escapesOf a ((k : Int) + 1) arg = decide (0 < t.params.length)) := by rw [Hid, hes, decide_eq_true hi, Ar.manyOf_id ht]; rfl
        generalize (P k).1 = PA at *
        generalize (P k).2 = pc at *
        have hkk : (k : Int) + 1 - 1 = (k : Int) := by omega
        have hw1 : IntKind.i64.wrap ((k : Int) + 1 - 1) = (k : Int) := by rw [hkk]; exact IntWalk.i64_in _ (by omega)
        have hw2 : IntKind.i64.wrap (k : Int) = (k : Int) := IntWalk.i64_in _ (by omega)
        have hb0 : (0 : Int) ≤ (k : Int) := by omega
        have hb1 : (k : Int) < (a.ids.length : Int) := by omega
        have hb2 : (k : Int) ≤ (a.ids.length : Int) := by omega
        have hdi : decide (0 < (k : Int) + 1) = true := decide_eq_true hi
        clear hes hin hc c0 c1 c2 ht
        subst hAe
        go_enter Tryz.func122, Tryz.ntmps122
        go_wp2
        go_ret
        exact ⟨ret_bool (by rw [HF.out]), hB0.out⟩
      · have HF : Hid (Ar.escapesOf a id arg = false) := by rw [Hid, hes, decide_eq_false hi]; rfl
        have hdi : decide (0 < id) = false := decide_eq_false hi
        clear hes hin
        go_enter Tryz.func122, Tryz.ntmps122
        go_wp2
        go_ret
        exact ⟨ret_bool (by rw [HF.out]), hB0.out⟩
    · rw [hj, Bool.true_or] at hes
      have HF : Hid (Ar.escapesOf a id arg = true) := hes
      have HJ := Lib.hid hj
      rw [hj] at e3 hB0 h1
      clear hes hin hj
      go_enter Tryz.func122, Tryz.ntmps122
      go_wp2
      go_ret
      exact ⟨ret_bool (by rw [HF.out]), hB0.out⟩

/-- A list of moves that a call has made. -/
def Made (w : World) (l : List Ar.Mv) (v : Value) (w' : World) : Prop := w'.ownsRow w.heap.size 40 4 v l.length (mvsCells l) ∧ Below w.heap.size w w'
theorem refPlaceL {a : Ar.Are} {A : Option Addr} {c : Nat} {P : Nat → Option Addr × Nat} {W : World} (id arg : Int) (h : ArM W A P a) : Calls Tryz.prog 88 #[.agg #[.slice A a.ids.length c, .bool a.root.cell, .int .i64 a.root.n, .bool a.jumps], .int .i64 id, .int .i64 arg] W fun e w' => e = .returned (.tuple #[.agg #[.bool ((Ar.placeOf a id arg).getD Ar.zeroB).cell, .int .i64 ((Ar.placeOf a id arg).getD Ar.zeroB).n], .bool (Ar.placeOf a id arg).isSome]) ∧ Below W.heap.size W w' :=
  refPlace_any a A c P id arg W h
set_option maxRecDepth 100000 in
set_option maxHeartbeats 4000000 in
theorem refQuestions_any (a : Ar.Are) (A : Option Addr) (c : Nat) (P : Nat → Option Addr × Nat) (id arg : Int) (w : World) (hA : ArM w A P a) (h64 : ∀ b, Ar.placeOf a id arg = some b → b.n ≤ 64) :
    Calls Tryz.prog 84 #[.agg #[.slice A a.ids.length c, .bool a.root.cell, .int .i64 a.root.n, .bool a.jumps], .int .i64 id, .int .i64 arg] w fun e w' => ∃ v, e = .returned v ∧ Made w (Ar.questionsAt a id arg) v w' := by
  obtain ⟨i0, hi, hz0, hz1, hz2⟩ := info_parts infoMv
  have h1 := Lib.hid (World.alloc_heap_new w (.cells #[.slice A a.ids.length c, .bool a.root.cell, .int .i64 a.root.n, .bool a.jumps] 26 (0, 0)))
  have hB0 : Hid (Below w.heap.size w (w.alloc (.cells #[.slice A a.ids.length c, .bool a.root.cell, .int .i64 a.root.n, .bool a.jumps] 26 (0, 0)))) := (Below.refl _ _).alloc (Nat.le_refl _) _
  obtain ⟨e0, e1, e2, e3, -, -, -, -⟩ := cells4 h1.out
  have HPL := Lib.hid (refPlaceL (c := c) id arg (hA.below hB0.out))
  have hq : Ar.questionsAt a id arg = (match Ar.placeOf a id arg with | some b => Ar.questionsOf ⟨b, id, arg, Ar.escapesOf a id arg⟩ | none => []) := rfl
  cases hp : Ar.placeOf a id arg with
  | none =>
    rw [hp] at hq HPL
    simp only at hq
    have HQ := Lib.hid hq
    simp only [Option.getD_none, Option.isSome_none] at HPL
    unfold Ar.zeroB at HPL
    clear hq hp h64 hA
    go_enter Tryz.func84, Tryz.ntmps84
    go_wp2_with (go_at_call 88; refine HPL.out.mono ?_; rintro e w2 ⟨rfl, hB2⟩; have hBw2 := hB0.out.trans (hB2.mono hB0.out.size))
    go_ret
    exact ⟨_, rfl, by rw [HQ.out]; exact World.ownsRow_nil _ _ _ _, hBw2.alloc hBw2.size _⟩
  | some b =>
    rw [hp] at hq HPL
    simp only at hq
    simp only [Option.getD_some, Option.isSome_some] at HPL
    have hb64 := h64 b hp
    obtain ⟨p, hpp⟩ : ∃ p : Ar.Pl, (⟨b, id, arg, Ar.escapesOf a id arg⟩ : Ar.Pl) = p := ⟨_, rfl⟩
    have hpb : p.base = b := by rw [← hpp]
    have hpi : p.id = id := by rw [← hpp]
    have hpa : p.arg = arg := by rw [← hpp]
    rw [hpp] at hq
    rw [hq]
    subst hpb hpi hpa
    clear hq hp h64 hA hpp
    obtain ⟨QL, hQL⟩ : ∃ l, Ar.questionsOf p = l := ⟨_, rfl⟩
    rw [hQL]
    have HQL := Lib.hid hQL
    clear hQL
    go_enter Tryz.func84, Tryz.ntmps84
    go_wp2_with (go_at_call 88; refine HPL.out.mono ?_; rintro e w2 ⟨rfl, hB2⟩; have hBw2 := hB0.out.trans (hB2.mono hB0.out.size))
    have hq0 := Lib.hid (two_new1 w2 (.cells #[.bool p.base.cell, .int .i64 p.base.n] 24 (0, 0)) (.cells #[.int .i64 p.id, .int .i64 p.arg, .int .u8 1, .int .i64 0] 40 (0, 0)))
    have hrow0 : Hid (((w2.alloc (.cells #[.bool p.base.cell, .int .i64 p.base.n] 24 (0, 0))).alloc (.cells #[.int .i64 p.id, .int .i64 p.arg, .int .u8 1, .int .i64 0] 40 (0, 0))).ownsRow (w2.heap.size + 1) 40 4 (.slice (some ⟨(w2.alloc (.cells #[.bool p.base.cell, .int .i64 p.base.n] 24 (0, 0))).heap.size, 0, none⟩) 1 1) 1 (mvsCells [Ar.mvOf p 1 0])) := World.ownsRow_lit _ #[.int .i64 p.id, .int .i64 p.arg, .int .u8 1, .int .i64 0] 1 (by rw [size_alloc]; exact Nat.le_refl _) (by decide) rfl
    rw [size_alloc] at hrow0
    have hBB : Hid (Below w.heap.size w ((w2.alloc (.cells #[.bool p.base.cell, .int .i64 p.base.n] 24 (0, 0))).alloc (.cells #[.int .i64 p.id, .int .i64 p.arg, .int .u8 1, .int .i64 0] 40 (0, 0)))) := hBw2.trans ((below_two _ _).mono hBw2.size)
    have HSZ := Lib.hid hBw2.size
    clear hBw2 hB2 hB0 h1 e0 e1 e2 e3
    go_loopw [9, 10] (fun v i wr => ∃ (k : Nat), k ≤ p.base.n.toNat ∧ i = .int .i64 k ∧ Hid (p.base.cell = false → k = 0) ∧ Hid (wr.ownsRow (w2.heap.size + 1) 40 4 v (k + 1) (mvsCells (Ar.mvOf p 1 0 :: Ar.valsFrom p 2 0 k))) ∧ Hid (Below w.heap.size w wr) ∧ Hid (wr.heap[w2.heap.size]? = some (.cells #[.bool p.base.cell, .int .i64 p.base.n] 24 (0, 0)))) (fun _ i _ => p.base.n.toNat - (intOf i).toNat)
    case atStart => exact ⟨0, Nat.zero_le _, rfl, fun _ => rfl, hrow0.out, hBB.out, hq0.out⟩
    case round =>
      obtain ⟨k, hk, rfl, hck, hrow, hB, hb⟩ := hrel
      obtain ⟨ao, cap, hv⟩ := own_form hrow.out
      subst hv
      obtain ⟨b0, b1, -, -⟩ := cells2 hb.out
      cases hcell : p.base.cell
      · rw [hcell] at b0
        obtain rfl := hck.out hcell
        have HF : Hid (QL = [Ar.mvOf p 1 0]) := by rw [Hid, ← HQL.out]; exact puts_none hcell
        clear hcell
        go_wp2
        go_ret
        refine ⟨_, rfl, ?_, hB.out⟩
        rw [HF.out]
        exact own_base hrow.out (Nat.le_succ_of_le HSZ.out)
      · rw [hcell] at b0 hb
        have HC := Lib.hid hcell
        clear hcell
        by_cases hlt : (k : Int) < p.base.n
        · have hd : decide ((k : Int) < p.base.n) = true := decide_eq_true hlt
          have hsr : w2.heap.size + 1 ≤ wr.heap.size := lt_of_heap hb.out
          go_wp2_with (at_builtin; go_loud (refine wpList_append_own_at _ rfl _ _ 32 rfl (w2.heap.size + 1) 40 i0 (.agg #[.int .i64 0, .int .i64 0, .int .u8 0, .int .i64 0]) 4 32 Tryz.underlying32 hi hz0 hz1 hz2 rfl (by decide) _ _ _ rfl (hrow.out.alloc _) ⟨wr.heap.size, 0, none⟩ 1 1 (mvCells (Ar.mvOf p 2 k)) rfl rfl (cell_four_at _ _ (by simp) _ _ _ _ _) (by simp [mvCells, Value.oneCell']) (by unfold maxLen; omega) (by omega) (by simp; omega) ?_); intro v' w3 hown' hgrow _ hat; have hr5 := Lib.hid (hrow.out.alloc (.cells (mvCells (Ar.mvOf p 2 k)).toArray 40 (0, 0))))
          go_roundw
          case rel =>
            refine ⟨k + 1, by omega, by go_num, (fun e => by cases e), ?_, ?_, ?_⟩
            · rw [Hid, vals_snoc, Nat.zero_add, ← List.cons_append, mvsCells_snoc]
              exact hown'
            · exact (hB.out.alloc hB.out.size _).grown hgrow (by rw [size_alloc]; exact Nat.le_succ_of_le hB.out.size) (fun j e => Nat.le_trans (Nat.le_succ_of_le HSZ.out) (own_low hr5.out e))
            · exact grown_far hr5.out hgrow ((Below.heap_alloc _ _ _ (lt_of_heap hb.out)).trans hb.out) (Nat.lt_succ_self _)
          case measure => simp [intOf]; omega
        · have hd : decide ((k : Int) < p.base.n) = false := decide_eq_false hlt
          obtain rfl : k = p.base.n.toNat := by omega
          have HF : Hid (QL = Ar.mvOf p 1 0 :: Ar.valsFrom p 2 0 p.base.n.toNat) := by
            rw [Hid, ← HQL.out]
            unfold Ar.questionsOf Ar.putsOf
            rw [if_pos HC.out]
          go_wp2
          go_ret
          refine ⟨_, rfl, ?_, hB.out⟩
          have hlen : (Ar.mvOf p 1 0 :: Ar.valsFrom p 2 0 p.base.n.toNat).length = p.base.n.toNat + 1 := by rw [List.length_cons, Ar.valsFrom_length]
          rw [HF.out, hlen]
          exact own_base hrow.out (Nat.le_succ_of_le HSZ.out)
end Go.Proofs.YtbfpgjnagpcbeaaGreatDoor

namespace Go.Proofs.YtbfpgjnagpcbeaaGreatDoor
open Go.RowKit Go.Shelf

/-- How many values are told. -/
def Ar.manyTold (b : Ar.Bs) (kind : Int) : Nat := if kind = 1 then b.n.toNat else min 1 b.n.toNat
theorem Ar.toldAt_def (a : Ar.Are) (id arg kind : Int) : Ar.toldAt a id arg kind = (match Ar.placeOf a id arg with | some b => Ar.tellsOf ⟨b, id, arg, Ar.escapesOf a id arg⟩ (Ar.manyTold b kind) | none => []) := rfl
theorem told_on {b : Ar.Bs} {kind : Int} {k : Nat} (hk : k ≤ Ar.manyTold b kind) : k < Ar.manyTold b kind ↔ ((k : Int) < b.n ∧ (k = 0 ∨ kind = 1)) := by
  unfold Ar.manyTold at *
  by_cases h : kind = 1
  · rw [if_pos h] at *; omega
  · rw [if_neg h] at *; omega
set_option maxRecDepth 100000 in
set_option maxHeartbeats 8000000 in
theorem refTold_any (a : Ar.Are) (A : Option Addr) (c : Nat) (P : Nat → Option Addr × Nat) (id arg kind : Int) (w : World) (hA : ArM w A P a) (h64 : ∀ b, Ar.placeOf a id arg = some b → b.n ≤ 64) :
    Calls Tryz.prog 82 #[.agg #[.slice A a.ids.length c, .bool a.root.cell, .int .i64 a.root.n, .bool a.jumps], .int .i64 id, .int .i64 arg, .int .u8 kind] w fun e w' => ∃ v, e = .returned v ∧ Made w (Ar.toldAt a id arg kind) v w' := by
  obtain ⟨i0, hi, hz0, hz1, hz2⟩ := info_parts infoMv
  have h1 := Lib.hid (World.alloc_heap_new w (.cells #[.slice A a.ids.length c, .bool a.root.cell, .int .i64 a.root.n, .bool a.jumps] 26 (0, 0)))
  have hB0 : Hid (Below w.heap.size w (w.alloc (.cells #[.slice A a.ids.length c, .bool a.root.cell, .int .i64 a.root.n, .bool a.jumps] 26 (0, 0)))) := (Below.refl _ _).alloc (Nat.le_refl _) _
  obtain ⟨e0, e1, e2, e3, -, -, -, -⟩ := cells4 h1.out
  have HPL := Lib.hid (refPlaceL (c := c) id arg (hA.below hB0.out))
  have hq := Ar.toldAt_def a id arg kind
  cases hp : Ar.placeOf a id arg with
  | none =>
    rw [hp] at hq HPL
    simp only at hq
    have HQ := Lib.hid hq
    simp only [Option.getD_none, Option.isSome_none] at HPL
    unfold Ar.zeroB at HPL
    clear hq hp h64 hA
    go_enter Tryz.func82, Tryz.ntmps82
    go_wp2_with (go_at_call 88; refine HPL.out.mono ?_; rintro e w2 ⟨rfl, hB2⟩; have hBw2 := hB0.out.trans (hB2.mono hB0.out.size))
    go_ret
    exact ⟨_, rfl, by rw [HQ.out]; exact World.ownsRow_nil _ _ _ _, hBw2.alloc hBw2.size _⟩
  | some b =>
    rw [hp] at hq HPL
    simp only at hq
    simp only [Option.getD_some, Option.isSome_some] at HPL
    have hb64 := h64 b hp
    have HES := Lib.hid (fun W (hB : Below w.heap.size w W) => refEscapes_any a A c P id arg W (hA.below hB) (Ar.placeOf_in hp))
    obtain ⟨es, hes⟩ : ∃ es, Ar.escapesOf a id arg = es := ⟨_, rfl⟩
    rw [hes] at hq HES
    obtain ⟨p, hpp⟩ : ∃ p : Ar.Pl, (⟨b, id, arg, es⟩ : Ar.Pl) = p := ⟨_, rfl⟩
    have hpb : p.base = b := by rw [← hpp]
    have hpi : p.id = id := by rw [← hpp]
    have hpa : p.arg = arg := by rw [← hpp]
    have hpe : p.jumps = es := by rw [← hpp]
    rw [hpp] at hq
    rw [hq]
    subst hpb hpi hpa hpe
    clear hq hp h64 hA hpp hes
    obtain ⟨V, hV⟩ : ∃ V, Ar.manyTold p.base kind = V := ⟨_, rfl⟩
    have hV64 : V ≤ 64 := by rw [← hV]; unfold Ar.manyTold; split <;> omega
    have HON : Hid (∀ k, k ≤ V → (k < V ↔ ((k : Int) < p.base.n ∧ (k = 0 ∨ kind = 1)))) := fun k hk => by rw [← hV] at hk ⊢; exact told_on hk
    rw [hV]
    clear hV
    obtain ⟨QL, hQL⟩ : ∃ l, Ar.tellsOf p V = l := ⟨_, rfl⟩
    rw [hQL]
    have HQL := Lib.hid hQL
    clear hQL
    have hel : Hid ((Ar.escOf p).length ≤ 1) := by unfold Ar.escOf; rw [Hid]; split <;> simp
    cases hes : p.jumps
    all_goals
      rw [hes] at HES
      first
        | have HEO : Hid (Ar.escOf p = [Ar.mvOf p 3 (-1)]) := by rw [Hid, Ar.escOf, if_pos hes]
        | have HEO : Hid (Ar.escOf p = []) := by rw [Hid, Ar.escOf, if_neg (by rw [hes]; exact Bool.false_ne_true)]
      clear hes
      go_enter Tryz.func82, Tryz.ntmps82
      go_wp2_with (first
        | (at_builtin; go_loud (refine wpList_append_own_at _ rfl _ _ 32 rfl (w2.heap.size + 1) 40 i0 (.agg #[.int .i64 0, .int .i64 0, .int .u8 0, .int .i64 0]) 4 32 Tryz.underlying32 hi hz0 hz1 hz2 rfl (by decide) _ _ _ rfl (World.ownsRow_nil _ _ _ _) ⟨w3.heap.size, 0, none⟩ 1 1 (mvCells (Ar.mvOf p 3 (-1))) rfl rfl (cell_four_at _ _ (by simp) _ _ _ _ _) (by simp [mvCells, Value.oneCell']) (by unfold maxLen; omega) (by omega) (by simp; omega) ?_); intro v' w4 hown' hgrow _ hat; obtain ⟨ao, cap, hv⟩ := own_form hown'; subst hv; have HR := Lib.hid hown'; have hB4 : Hid (Below w.heap.size w w4) := (hBw3.alloc hBw3.size _).grown hgrow (by rw [size_alloc]; exact Nat.le_succ_of_le hBw3.size) (fun j e => by cases e); have hb4 : Hid (w4.heap[w2.heap.size]? = some (.cells #[.bool p.base.cell, .int .i64 p.base.n] 24 (0, 0))) := (hgrow.block _ (by rw [size_alloc]; exact Nat.lt_succ_of_lt (lt_of_heap q3.out)) (fun e => by cases e)).trans ((Below.heap_alloc _ _ _ (lt_of_heap q3.out)).trans q3.out))
        | (go_at_call 122; refine (HES.out _ hBw3').mono ?_; rintro e w3 ⟨rfl, hB3⟩; have hBw3 := hBw3'.trans (hB3.mono hBw3'.size); have q3 := Lib.hid ((hB3.block _ (lt_of_heap q2.out)).trans q2.out); have hsz3 : w2.heap.size + 1 ≤ w3.heap.size := lt_of_heap q3.out)
        | (go_at_call 88; refine HPL.out.mono ?_; rintro e w2 ⟨rfl, hB2⟩; have hBw2 := hB0.out.trans (hB2.mono hB0.out.size); have HSZ := Lib.hid hBw2.size; have hBw3' := hBw2.alloc hBw2.size (.cells #[.bool p.base.cell, .int .i64 p.base.n] 24 (0, 0)); have q2 := Lib.hid (World.alloc_heap_new w2 (.cells #[.bool p.base.cell, .int .i64 p.base.n] 24 (0, 0))); obtain ⟨d0, d1, d2, d3, -, -, -, -⟩ := cells4 ((Below.heap_alloc w2 (.cells #[.bool p.base.cell, .int .i64 p.base.n] 24 (0, 0)) _ (Nat.lt_of_lt_of_le (lt_of_heap h1.out) hB2.size)).trans ((hB2.block _ (lt_of_heap h1.out)).trans h1.out))))
      go_loopw [11, 12] (fun v i wr => ∃ (k : Nat), k ≤ V ∧ i = .int .i64 k ∧ Hid (wr.ownsRow (w2.heap.size + 1) 40 4 v ((Ar.escOf p).length + k) (mvsCells (Ar.escOf p ++ Ar.valsFrom p 3 0 k))) ∧ Hid (Below w.heap.size w wr) ∧ Hid (wr.heap[w2.heap.size]? = some (.cells #[.bool p.base.cell, .int .i64 p.base.n] 24 (0, 0)))) (fun _ i _ => V - (intOf i).toNat)
      case atStart =>
        refine ⟨0, Nat.zero_le _, rfl, ?_, ?_, ?_⟩
        · rw [HEO.out]
          first
            | exact HR.out
            | exact World.ownsRow_nil _ _ _ _
        · first | exact hB4.out | exact hBw3
        · first | exact hb4.out | exact q3.out
      case round =>
        obtain ⟨k, hk, rfl, hrow, hB, hb⟩ := hrel
        obtain ⟨ao, cap, hv⟩ := own_form hrow.out
        subst hv
        obtain ⟨b0, b1, -, -⟩ := cells2 hb.out
        have hsr : w2.heap.size + 1 ≤ wr.heap.size := lt_of_heap hb.out
        have hel2 := hel.out
        by_cases hlt : k < V
        · have hon := (HON.out k hk).1 hlt
          have hd : decide ((k : Int) < p.base.n) = true := decide_eq_true hon.1
          have HON1 := Lib.hid hon.2
          have hon1 := hon.1
          clear hon
          by_cases hk0 : k = 0
          · have hk2 : ((k : Int) == 0) = true := by rw [hk0]; rfl
            clear hk0
            go_wp2_with (at_builtin; go_loud (refine wpList_append_own_at _ rfl _ _ 32 rfl (w2.heap.size + 1) 40 i0 (.agg #[.int .i64 0, .int .i64 0, .int .u8 0, .int .i64 0]) 4 32 Tryz.underlying32 hi hz0 hz1 hz2 rfl (by decide) _ _ _ rfl (hrow.out.alloc _) ⟨wr.heap.size, 0, none⟩ 1 1 (mvCells (Ar.mvOf p 3 k)) rfl rfl (cell_four_at _ _ (by simp) _ _ _ _ _) (by simp [mvCells, Value.oneCell']) (by unfold maxLen; omega) (by omega) (by simp; omega) ?_); intro v' w5 hown' hgrow _ hat; have hr5 := Lib.hid (hrow.out.alloc (.cells (mvCells (Ar.mvOf p 3 k)).toArray 40 (0, 0))))
            go_roundw
            case rel =>
              refine ⟨k + 1, by omega, by go_num, ?_, ?_, ?_⟩
              · rw [Hid, vals_snoc, Nat.zero_add, ← List.append_assoc, mvsCells_snoc, ← Nat.add_assoc]
                exact hown'
              · exact (hB.out.alloc hB.out.size _).grown hgrow (by rw [size_alloc]; exact Nat.le_succ_of_le hB.out.size) (fun j e => Nat.le_trans (Nat.le_succ_of_le HSZ.out) (own_low hr5.out e))
              · exact grown_far hr5.out hgrow ((Below.heap_alloc _ _ _ (lt_of_heap hb.out)).trans hb.out) (Nat.lt_succ_self _)
            case measure => simp [intOf]; omega
          · have hk2 : ((k : Int) == 0) = false := by rw [beq_eq_false_iff_ne]; omega
            have hkd : (kind == 1) = true := by
              rw [beq_iff_eq]
              rcases HON1.out with h | h
              · exact absurd h hk0
              · exact h
            clear hk0
            go_wp2_with (at_builtin; go_loud (refine wpList_append_own_at _ rfl _ _ 32 rfl (w2.heap.size + 1) 40 i0 (.agg #[.int .i64 0, .int .i64 0, .int .u8 0, .int .i64 0]) 4 32 Tryz.underlying32 hi hz0 hz1 hz2 rfl (by decide) _ _ _ rfl (hrow.out.alloc _) ⟨wr.heap.size, 0, none⟩ 1 1 (mvCells (Ar.mvOf p 3 k)) rfl rfl (cell_four_at _ _ (by simp) _ _ _ _ _) (by simp [mvCells, Value.oneCell']) (by unfold maxLen; omega) (by omega) (by simp; omega) ?_); intro v' w5 hown' hgrow _ hat; have hr5 := Lib.hid (hrow.out.alloc (.cells (mvCells (Ar.mvOf p 3 k)).toArray 40 (0, 0))))
            go_roundw
            case rel =>
              refine ⟨k + 1, by omega, by go_num, ?_, ?_, ?_⟩
              · rw [Hid, vals_snoc, Nat.zero_add, ← List.append_assoc, mvsCells_snoc, ← Nat.add_assoc]
                exact hown'
              · exact (hB.out.alloc hB.out.size _).grown hgrow (by rw [size_alloc]; exact Nat.le_succ_of_le hB.out.size) (fun j e => Nat.le_trans (Nat.le_succ_of_le HSZ.out) (own_low hr5.out e))
              · exact grown_far hr5.out hgrow ((Below.heap_alloc _ _ _ (lt_of_heap hb.out)).trans hb.out) (Nat.lt_succ_self _)
            case measure => simp [intOf]; omega
        · obtain rfl : k = V := by omega
          have hfin : Hid (wr.ownsRow w.heap.size 40 4 (.slice ao ((Ar.escOf p).length + k) cap) QL.length (mvsCells QL)) := by
            have h2 : QL = Ar.escOf p ++ Ar.valsFrom p 3 0 k := HQL.out.symm
            rw [Hid, h2, List.length_append, Ar.valsFrom_length]
            exact own_base hrow.out (Nat.le_succ_of_le HSZ.out)
          have hno : ¬ ((k : Int) < p.base.n ∧ (k = 0 ∨ kind = 1)) := fun h => hlt ((HON.out k hk).2 h)
          by_cases hl : (k : Int) < p.base.n
          · have hd : decide ((k : Int) < p.base.n) = true := decide_eq_true hl
            have hk2 : ((k : Int) == 0) = false := by rw [beq_eq_false_iff_ne]; exact fun h => hno ⟨hl, .inl (by omega)⟩
            have hkd : (kind == 1) = false := by rw [beq_eq_false_iff_ne]; exact fun h => hno ⟨hl, .inr h⟩
            clear hno hlt
            go_wp2
            go_ret
            exact ⟨_, rfl, hfin.out, hB.out⟩
          · have hd : decide ((k : Int) < p.base.n) = false := decide_eq_false hl
            clear hno hlt
            go_wp2
            go_ret
            exact ⟨_, rfl, hfin.out, hB.out⟩
end Go.Proofs.YtbfpgjnagpcbeaaGreatDoor
