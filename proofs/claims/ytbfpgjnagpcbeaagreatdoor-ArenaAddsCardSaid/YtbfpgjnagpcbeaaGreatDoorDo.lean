/-
  WALKS: the reference: whether an arena has a move, whose it is, its answers.
  WALKS: the reference: whose a move is, its answers, the questions under it.
  WALKS: the reference: the questions that a question allows.
-/
import Derived.Test.YtbfpgjnagpcbeaaGreatDoorDj
import Derived.Laws.AppendOwnNone
namespace Go.Proofs.YtbfpgjnagpcbeaaGreatDoor
open Go.RowKit Go.Shelf

namespace Ar
/-- Whether a place's lists hold a move. -/
def hasRef (a : Are) (m : Mv) : Bool := ((questionsAt a m.id m.arg).any fun x => mvEq x m) || ((toldAt a m.id m.arg 1).any fun x => mvEq x m)
theorem placeOf_right {a : Are} (h : Right a) {id arg : Int} {b : Bs} (hb : placeOf a id arg = some b) : 1 ≤ b.n ∧ b.n ≤ 64 := by
  have := at_of a id arg
  rw [hb, Option.map_some] at this
  exact place_right h _ (List.mem_of_find?_eq_some this)
theorem has_ref {a : Are} (h : checkOf a = 0) (m : Mv) : findErr a m = if hasRef a m = true then 0 else 7 := by
  have hr := right_of_check h
  unfold findErr
  rw [if_pos h, at_of]
  unfold hasRef questionsAt toldAt
  cases hp : placeOf a m.id m.arg with
  | none => simp
  | some b =>
    simp only [Option.map_some]
    rw [if_pos trivial, ← List.any_append]
    rfl
theorem places_short {a : Are} (h : Right a) (id arg kind : Int) : (questionsAt a id arg).length ≤ 65 ∧ (toldAt a id arg kind).length ≤ 65 := by
  unfold questionsAt toldAt
  cases hp : placeOf a id arg with
  | none => exact ⟨Nat.zero_le _, Nat.zero_le _⟩
  | some b =>
    obtain ⟨h1, h2⟩ := placeOf_right h hp
    simp only
    constructor
    · unfold questionsOf putsOf
      rw [List.length_cons]
      split
      · rw [valsFrom_length]; simp only; omega
      · simp
    · unfold tellsOf escOf
      rw [List.length_append, valsFrom_length]
      have e1 : (if (⟨b, id, arg, escapesOf a id arg⟩ : Pl).jumps = true then [mvOf ⟨b, id, arg, escapesOf a id arg⟩ 3 (-1)] else []).length ≤ 1 := by split <;> simp
      have e2 : (if kind = 1 then b.n.toNat else min 1 b.n.toNat) ≤ 64 := by split <;> omega
      omega
end Ar

/-- Whether a list holds a move. -/
def FindIs (l : List Ar.Mv) (m : Ar.Mv) (R : Bool) : Prop := (l.any fun x => mvEq x m) = R
theorem refFindS {l : List Ar.Mv} {A : Option Addr} {c : Nat} {m : Ar.Mv} {R : Bool} {w : World} (hl : l.length ≤ 1000000) (hA : Mvs w w.heap.size A l) (hR : FindIs l m R) :
    Calls Tryz.prog 53 #[.slice A l.length c, .agg #[.int .i64 m.id, .int .i64 m.arg, .int .u8 m.kind, .int .i64 m.n]] w fun e w' => ∃ r : Int, e = .returned (.int .i64 r) ∧ decide (0 ≤ r) = R ∧ Below w.heap.size w w' :=
  (refFind_any l A c m w hl hA).mono fun _ _ ⟨h1, h2⟩ => ⟨_, h1, by rw [Ar.find_any_of]; exact hR, h2⟩
/-- The first two blocks of a call: an arena and a move. -/
structure AB (w : World) (a : Ar.Are) (A : Option Addr) (c : Nat) (m : Ar.Mv) (W : World) : Prop where
  below : Below w.heap.size w W
  arg : W.heap[w.heap.size]? = some (.cells #[.slice A a.ids.length c, .bool a.root.cell, .int .i64 a.root.n, .bool a.jumps] 26 (0, 0))
  mv : W.heap[w.heap.size + 1]? = some (.cells #[.int .i64 m.id, .int .i64 m.arg, .int .u8 m.kind, .int .i64 m.n] 40 (0, 0))
theorem AB.next {w : World} {a : Ar.Are} {A : Option Addr} {c : Nat} {m : Ar.Mv} {W W' : World} (h : AB w a A c m W) (hB : Below W.heap.size W W') : AB w a A c m W' :=
  ⟨h.below.trans (hB.mono h.below.size), (hB.block _ (lt_of_heap h.arg)).trans h.arg, (hB.block _ (lt_of_heap h.mv)).trans h.mv⟩
theorem AB.nextD {w : World} {a : Ar.Are} {A : Option Addr} {c : Nat} {m : Ar.Mv} {W W' : World} (h : AB w a A c m W) (hB : Below W.drew.heap.size W.drew W') : AB w a A c m W' :=
  ⟨h.below.drew.trans (hB.mono h.below.size), (hB.block _ (lt_of_heap h.arg)).trans h.arg, (hB.block _ (lt_of_heap h.mv)).trans h.mv⟩
/-- The same, by cells. -/
def ABc (w : World) (a : Ar.Are) (A : Option Addr) (c : Nat) (m : Ar.Mv) (W : World) : Prop := Below w.heap.size w W ∧ W.cell? ⟨w.heap.size, 0, none⟩ = some (.slice A a.ids.length c) ∧ W.cell? ⟨w.heap.size, 1, none⟩ = some (.bool a.root.cell) ∧ W.cell? ⟨w.heap.size, 2, none⟩ = some (.int .i64 a.root.n) ∧ W.cell? ⟨w.heap.size, 3, none⟩ = some (.bool a.jumps) ∧
  W.cell? ⟨w.heap.size + 1, 0, none⟩ = some (.int .i64 m.id) ∧ W.cell? ⟨w.heap.size + 1, 1, none⟩ = some (.int .i64 m.arg) ∧ W.cell? ⟨w.heap.size + 1, 2, none⟩ = some (.int .u8 m.kind) ∧ W.cell? ⟨w.heap.size + 1, 3, none⟩ = some (.int .i64 m.n)
theorem ABc.next {w : World} {a : Ar.Are} {A : Option Addr} {c : Nat} {m : Ar.Mv} {W W' : World} (h : ABc w a A c m W) (hB : Below W.heap.size W W') : ABc w a A c m W' := by
  obtain ⟨h0, x0, x1, x2, x3, y0, y1, y2, y3⟩ := h
  exact ⟨h0.trans (hB.mono h0.size), keep_cell hB x0, keep_cell hB x1, keep_cell hB x2, keep_cell hB x3, keep_cell hB y0, keep_cell hB y1, keep_cell hB y2, keep_cell hB y3⟩
theorem AB.first (w : World) (a : Ar.Are) (A : Option Addr) (c : Nat) (m : Ar.Mv) : AB w a A c m ((w.alloc (.cells #[.slice A a.ids.length c, .bool a.root.cell, .int .i64 a.root.n, .bool a.jumps] 26 (0, 0))).alloc (.cells #[.int .i64 m.id, .int .i64 m.arg, .int .u8 m.kind, .int .i64 m.n] 40 (0, 0))) :=
  ⟨below_two _ _, two_new1 _ _ _, two_new2 _ _ _⟩
set_option maxRecDepth 100000 in
set_option maxHeartbeats 8000000 in
theorem refHas_any (a : Ar.Are) (A : Option Addr) (c : Nat) (P : Nat → Option Addr × Nat) (m : Ar.Mv) (w : World) (hA : ArM w A P a) (hr : Ar.Right a) :
    Calls Tryz.prog 34 #[.agg #[.slice A a.ids.length c, .bool a.root.cell, .int .i64 a.root.n, .bool a.jumps], .agg #[.int .i64 m.id, .int .i64 m.arg, .int .u8 m.kind, .int .i64 m.n]] w fun e w' => e = .returned (.bool (Ar.hasRef a m)) ∧ Below w.heap.size w w' := by
  have HF := Lib.hid (AB.first w a A c m)
  obtain ⟨e0, e1, e2, e3, -, -, -, -⟩ := cells4 HF.out.arg
  obtain ⟨f0, f1, f2, f3, -, -, -, -⟩ := cells4 HF.out.mv
  have HQ := Lib.hid (fun W (hB : Below w.heap.size w W) => refQuestions_any a A c P m.id m.arg W (hA.below hB) (fun b hb => (Ar.placeOf_right hr hb).2))
  have HTD := Lib.hid (fun W (hB : Below w.heap.size w W) => refTold_any a A c P m.id m.arg 1 W (hA.below hB) (fun b hb => (Ar.placeOf_right hr hb).2))
  obtain ⟨s1, s2⟩ := Ar.places_short hr m.id m.arg 1
  have hd : Ar.hasRef a m = (((Ar.questionsAt a m.id m.arg).any fun x => mvEq x m) || ((Ar.toldAt a m.id m.arg 1).any fun x => mvEq x m)) := rfl
  have HD := Lib.hid hd
  clear hA hr hd
  generalize Ar.questionsAt a m.id m.arg = QL at *
  generalize Ar.toldAt a m.id m.arg 1 = TL at *
  have k1 : QL.length ≤ 1000000 := by omega
  have k2 : TL.length ≤ 1000000 := by omega
  generalize Ar.hasRef a m = R at *
  clear s1 s2
  cases hq : (QL.any fun x => mvEq x m)
  · have HR : Hid (R = (TL.any fun x => mvEq x m)) := by rw [Hid, HD.out, hq]; rfl
    have g1 : FindIs QL m false := hq
    clear hq HD
    cases ht : (TL.any fun x => mvEq x m)
    · have HRR : Hid (R = false) := by rw [Hid, HR.out, ht]
      have g2 : FindIs TL m false := ht
      clear ht HR
      go_enter Tryz.func34, Tryz.ntmps34
      go_wp2
      generalize ((w.alloc (.cells #[.slice A a.ids.length c, .bool a.root.cell, .int .i64 a.root.n, .bool a.jumps] 26 (0, 0))).alloc (.cells #[.int .i64 m.id, .int .i64 m.arg, .int .u8 m.kind, .int .i64 m.n] 40 (0, 0))) = W0 at *
      have hS0 : ABc w a A c m W0.drew := ⟨HF.out.below.drew, e0, e1, e2, e3, f0, f1, f2, f3⟩
      have HS0 := Lib.hid hS0
      clear hS0
      go_region_held3 (fun w' => Below w.heap.size w w' ∧ w'.cell? ⟨w.heap.size, 0, none⟩ = some (.slice A a.ids.length c) ∧ w'.cell? ⟨w.heap.size, 1, none⟩ = some (.bool a.root.cell) ∧ w'.cell? ⟨w.heap.size, 2, none⟩ = some (.int .i64 a.root.n) ∧ w'.cell? ⟨w.heap.size, 3, none⟩ = some (.bool a.jumps) ∧
          w'.cell? ⟨w.heap.size + 1, 0, none⟩ = some (.int .i64 m.id) ∧ w'.cell? ⟨w.heap.size + 1, 1, none⟩ = some (.int .i64 m.arg) ∧ w'.cell? ⟨w.heap.size + 1, 2, none⟩ = some (.int .u8 m.kind) ∧ w'.cell? ⟨w.heap.size + 1, 3, none⟩ = some (.int .i64 m.n))
        (first
          | exact HS0.out
          | assumption
          | exact ABc.next (by assumption) hB3
          | exact ABc.next (by assumption) hB4
          | exact ABc.next (by assumption) hB5
          | exact ABc.next (by assumption) hB6
          | go_keep)
        ((first
          | (go_at_call 53; have _t := hB5; refine (refFindS k2 hmt g2).mono ?_; rintro e w6 ⟨r2, rfl, hr6, hB6⟩)
          | (go_at_call 82; refine (HTD.out _ (SI_below (by assumption))).mono ?_; rintro e w5 ⟨v, rfl, ho⟩; obtain ⟨ao2, cap2, hv⟩ := own_form ho.1; have ho2 := ho.1; subst hv; have hmt := mvs_of_own ho2; have hB5 := ho.2)
          | (go_at_call 53; refine (refFindS k1 hmq g1).mono ?_; rintro e w4 ⟨r, rfl, hr, hB4⟩; have hr3 : r < 0 := (by have := of_decide_eq_false hr; omega))
          | (go_at_call 84; refine (HQ.out _ (SI_below (by assumption))).mono ?_; rintro e w3 ⟨v, rfl, ho⟩; obtain ⟨ao, cap, hv⟩ := own_form ho.1; have ho1 := ho.1; subst hv; have hmq := mvs_of_own ho1; have hB3 := ho.2)))
      all_goals go_wp2
      all_goals
        go_ret
        exact ⟨ret_bool (by rw [HRR.out]), SI_below (by assumption)⟩
    · have HRR : Hid (R = true) := by rw [Hid, HR.out, ht]
      have g2 : FindIs TL m true := ht
      clear ht HR
      go_enter Tryz.func34, Tryz.ntmps34
      go_wp2
      generalize ((w.alloc (.cells #[.slice A a.ids.length c, .bool a.root.cell, .int .i64 a.root.n, .bool a.jumps] 26 (0, 0))).alloc (.cells #[.int .i64 m.id, .int .i64 m.arg, .int .u8 m.kind, .int .i64 m.n] 40 (0, 0))) = W0 at *
      have hS0 : ABc w a A c m W0.drew := ⟨HF.out.below.drew, e0, e1, e2, e3, f0, f1, f2, f3⟩
      have HS0 := Lib.hid hS0
      clear hS0
      go_region_held3 (fun w' => Below w.heap.size w w' ∧ w'.cell? ⟨w.heap.size, 0, none⟩ = some (.slice A a.ids.length c) ∧ w'.cell? ⟨w.heap.size, 1, none⟩ = some (.bool a.root.cell) ∧ w'.cell? ⟨w.heap.size, 2, none⟩ = some (.int .i64 a.root.n) ∧ w'.cell? ⟨w.heap.size, 3, none⟩ = some (.bool a.jumps) ∧
          w'.cell? ⟨w.heap.size + 1, 0, none⟩ = some (.int .i64 m.id) ∧ w'.cell? ⟨w.heap.size + 1, 1, none⟩ = some (.int .i64 m.arg) ∧ w'.cell? ⟨w.heap.size + 1, 2, none⟩ = some (.int .u8 m.kind) ∧ w'.cell? ⟨w.heap.size + 1, 3, none⟩ = some (.int .i64 m.n))
        (first
          | exact HS0.out
          | assumption
          | exact ABc.next (by assumption) hB3
          | exact ABc.next (by assumption) hB4
          | exact ABc.next (by assumption) hB5
          | exact ABc.next (by assumption) hB6
          | go_keep)
        ((first
          | (go_at_call 53; have _t := hB5; refine (refFindS k2 hmt g2).mono ?_; rintro e w6 ⟨r2, rfl, hr6, hB6⟩; have hr7 : 0 ≤ r2 := of_decide_eq_true hr6)
          | (go_at_call 82; refine (HTD.out _ (SI_below (by assumption))).mono ?_; rintro e w5 ⟨v, rfl, ho⟩; obtain ⟨ao2, cap2, hv⟩ := own_form ho.1; have ho2 := ho.1; subst hv; have hmt := mvs_of_own ho2; have hB5 := ho.2)
          | (go_at_call 53; refine (refFindS k1 hmq g1).mono ?_; rintro e w4 ⟨r, rfl, hr, hB4⟩; have hr3 : r < 0 := (by have := of_decide_eq_false hr; omega))
          | (go_at_call 84; refine (HQ.out _ (SI_below (by assumption))).mono ?_; rintro e w3 ⟨v, rfl, ho⟩; obtain ⟨ao, cap, hv⟩ := own_form ho.1; have ho1 := ho.1; subst hv; have hmq := mvs_of_own ho1; have hB3 := ho.2)))
      all_goals go_wp2
      all_goals
        go_ret
        exact ⟨ret_bool (by rw [HRR.out]), SI_below (by assumption)⟩
  · have HR : Hid (R = true) := by rw [Hid, HD.out, hq]; rfl
    have g1 : FindIs QL m true := hq
    clear hq HD
    have hS0 : ABc w a A c m ((w.alloc (.cells #[.slice A a.ids.length c, .bool a.root.cell, .int .i64 a.root.n, .bool a.jumps] 26 (0, 0))).alloc (.cells #[.int .i64 m.id, .int .i64 m.arg, .int .u8 m.kind, .int .i64 m.n] 40 (0, 0))).drew := ⟨HF.out.below.drew, e0, e1, e2, e3, f0, f1, f2, f3⟩
    have HS0 := Lib.hid hS0
    clear hS0
    have hmx : Tryz.prog.follows .mixedOrders = true := by kernel_rfl
    go_enter Tryz.func34, Tryz.ntmps34
    go_wp2
    generalize ((w.alloc (.cells #[.slice A a.ids.length c, .bool a.root.cell, .int .i64 a.root.n, .bool a.jumps] 26 (0, 0))).alloc (.cells #[.int .i64 m.id, .int .i64 m.arg, .int .u8 m.kind, .int .i64 m.n] 40 (0, 0))) = W0 at *
    refine wp_region_held_drew (S := (fun w' => Below w.heap.size w w' ∧ w'.cell? ⟨w.heap.size, 0, none⟩ = some (.slice A a.ids.length c) ∧ w'.cell? ⟨w.heap.size, 1, none⟩ = some (.bool a.root.cell) ∧ w'.cell? ⟨w.heap.size, 2, none⟩ = some (.int .i64 a.root.n) ∧ w'.cell? ⟨w.heap.size, 3, none⟩ = some (.bool a.jumps) ∧
          w'.cell? ⟨w.heap.size + 1, 0, none⟩ = some (.int .i64 m.id) ∧ w'.cell? ⟨w.heap.size + 1, 1, none⟩ = some (.int .i64 m.arg) ∧ w'.cell? ⟨w.heap.size + 1, 2, none⟩ = some (.int .u8 m.kind) ∧ w'.cell? ⟨w.heap.size + 1, 3, none⟩ = some (.int .i64 m.n))) hmx HS0.out (fun hHeld => ?_)
    refine wpAnyH_take (i := 0) (oi := { dst := some 5, op := Op.load 26 (Operand.tmp 2), type := 26, pos := "ref.go:118", after := #[], guard := none }) (v := ?_) rfl (by kernel_rfl) (by kernel_rfl) (by kernel_rfl) (fun _ _ _ h => h) (Or.inl ⟨by rfl, ?_⟩) (by assumption) ?_
    rotate_left
    · intro w hSw; (try dsimp only at hSw); go_simp; (try (with_reducible rfl))
    try simp only [Act.put, List.setIfInBounds_toArray, List.set_cons_zero, List.set_cons_succ]
    refine wpAnyH_take (i := 1) (oi := { dst := some 6, op := Op.fieldAddr 40 (Operand.tmp 3) 0, type := 0, pos := "ref.go:118", after := #[], guard := none }) (v := ?_) rfl (by kernel_rfl) (by kernel_rfl) (by kernel_rfl) (fun _ _ _ h => h) (Or.inl ⟨by rfl, ?_⟩) (by assumption) ?_
    rotate_left
    · intro w hSw; (try dsimp only at hSw); go_simp; (try (with_reducible rfl))
    try simp only [Act.put, List.setIfInBounds_toArray, List.set_cons_zero, List.set_cons_succ]
    refine wpAnyH_take (i := 2) (oi := { dst := some 7, op := Op.load 3 (Operand.tmp 6), type := 3, pos := "ref.go:118", after := #[{ on := 1, ground := Ground.data }], guard := none }) (v := ?_) rfl (by kernel_rfl) (by kernel_rfl) (by kernel_rfl) (fun _ _ _ h => h) (Or.inl ⟨by rfl, ?_⟩) (by assumption) ?_
    rotate_left
    · intro w hSw; (try dsimp only at hSw); go_simp; (try (with_reducible rfl))
    try simp only [Act.put, List.setIfInBounds_toArray, List.set_cons_zero, List.set_cons_succ]
    refine wpAnyH_take (i := 3) (oi := { dst := some 8, op := Op.fieldAddr 40 (Operand.tmp 3) 1, type := 0, pos := "ref.go:118", after := #[], guard := none }) (v := ?_) rfl (by kernel_rfl) (by kernel_rfl) (by kernel_rfl) (fun _ _ _ h => h) (Or.inl ⟨by rfl, ?_⟩) (by assumption) ?_
    rotate_left
    · intro w hSw; (try dsimp only at hSw); go_simp; (try (with_reducible rfl))
    try simp only [Act.put, List.setIfInBounds_toArray, List.set_cons_zero, List.set_cons_succ]
    refine wpAnyH_take (i := 4) (oi := { dst := some 9, op := Op.load 3 (Operand.tmp 8), type := 3, pos := "ref.go:118", after := #[{ on := 3, ground := Ground.data }], guard := none }) (v := ?_) rfl (by kernel_rfl) (by kernel_rfl) (by kernel_rfl) (fun _ _ _ h => h) (Or.inl ⟨by rfl, ?_⟩) (by assumption) ?_
    rotate_left
    · intro w hSw; (try dsimp only at hSw); go_simp; (try (with_reducible rfl))
    try simp only [Act.put, List.setIfInBounds_toArray, List.set_cons_zero, List.set_cons_succ]
    refine wpAnyH_take (i := 6) (oi := { dst := some 11, op := Op.load 40 (Operand.tmp 3), type := 40, pos := "ref.go:118", after := #[], guard := none }) (v := ?_) rfl (by kernel_rfl) (by kernel_rfl) (by kernel_rfl) (fun _ _ _ h => h) (Or.inl ⟨by rfl, ?_⟩) (by assumption) ?_
    rotate_left
    · intro w hSw; (try dsimp only at hSw); go_simp; (try (with_reducible rfl))
    try simp only [Act.put, List.setIfInBounds_toArray, List.set_cons_zero, List.set_cons_succ]
    refine wpAnyH_ready (rs := [5]) (by kernel_rfl) (by simp) ?_
    refine AllReadyH.cons (o := { dst := some 10, op := Op.call { callee := Callee.value (Operand.func 84), args := #[Operand.tmp 5, Operand.tmp 7, Operand.tmp 9], argTypes := #[26, 3, 3] }, type := 32, pos := "ref.go:118", after := #[{ on := 0, ground := Ground.data }, { on := 2, ground := Ground.data }, { on := 4, ground := Ground.data }], guard := none }) rfl (fun K hK => ?_) AllReadyH.nil
    go_simp
    (go_at_call 84; refine (HQ.out _ (SI_below (by assumption))).mono ?_; rintro e w3 ⟨v, rfl, ho⟩; obtain ⟨ao, cap, hv⟩ := own_form ho.1; have ho1 := ho.1; subst hv; have hmq := mvs_of_own ho1; have hB3 := ho.2)
    try go_wp2_with fail
    refine hK.out _ _ ?_ (fun hHeld => ?_)
    · exact ABc.next (by assumption) hB3
    clear hK K
    try simp only [Act.put, List.setIfInBounds_toArray, List.set_cons_zero, List.set_cons_succ]
    refine wpAnyH_ready (rs := [7]) (by kernel_rfl) (by simp) ?_
    refine AllReadyH.cons (o := { dst := some 12, op := Op.call { callee := Callee.value (Operand.func 53), args := #[Operand.tmp 10, Operand.tmp 11], argTypes := #[32, 40] }, type := 3, pos := "ref.go:118", after := #[{ on := 5, ground := Ground.data }, { on := 6, ground := Ground.data }, { on := 5, ground := Ground.chain }], guard := none }) rfl (fun K hK => ?_) AllReadyH.nil
    go_simp
    (go_at_call 53; refine (refFindS k1 hmq g1).mono ?_; rintro e w4 ⟨r, rfl, hr, hB4⟩; have hr3 : 0 ≤ r := of_decide_eq_true hr)
    try go_wp2_with fail
    refine hK.out _ _ ?_ (fun hHeld => ?_)
    · exact ABc.next (by assumption) hB4
    clear hK K
    try simp only [Act.put, List.setIfInBounds_toArray, List.set_cons_zero, List.set_cons_succ]
    refine wpAnyH_take (i := 8) (oi := { dst := some 13, op := Op.binOp BinOp.geq 3 (Operand.tmp 12) (Operand.const (Value.int IntKind.i64 0)) 3, type := 4, pos := "ref.go:118", after := #[{ on := 7, ground := Ground.data }], guard := none }) (v := ?_) rfl (by kernel_rfl) (by kernel_rfl) (by kernel_rfl) (fun _ _ _ h => h) (Or.inl ⟨by rfl, ?_⟩) (by assumption) ?_
    rotate_left
    · intro w hSw; (try dsimp only at hSw); go_simp; (try (with_reducible rfl))
    try simp only [Act.put, List.setIfInBounds_toArray, List.set_cons_zero, List.set_cons_succ]
    refine wpAnyH_take (i := 9) (oi := { dst := some 14, op := Op.move (Operand.tmp 13), type := 4, pos := "ref.go:118", after := #[{ on := 8, ground := Ground.data }, { on := 7, ground := Ground.chain }], guard := none }) (v := ?_) rfl (by kernel_rfl) (by kernel_rfl) (by kernel_rfl) (fun _ _ _ h => h) (Or.inl ⟨by rfl, ?_⟩) (by assumption) ?_
    rotate_left
    · intro w hSw; (try dsimp only at hSw); go_simp; (try (with_reducible rfl))
    try simp only [Act.put, List.setIfInBounds_toArray, List.set_cons_zero, List.set_cons_succ]
    refine wpAnyH_take (i := 10) (oi := { dst := some 15, op := Op.load 26 (Operand.tmp 2), type := 26, pos := "ref.go:118", after := #[{ on := 9, ground := Ground.guard }], guard := some (9, false) }) (v := undef) rfl (by kernel_rfl) (by kernel_rfl) (by kernel_rfl) (fun _ _ _ h => h) (Or.inr ⟨by rfl, rfl⟩) (by assumption) ?_
    try simp only [Act.put, List.setIfInBounds_toArray, List.set_cons_zero, List.set_cons_succ]
    refine wpAnyH_take (i := 11) (oi := { dst := some 16, op := Op.fieldAddr 40 (Operand.tmp 3) 0, type := 0, pos := "ref.go:118", after := #[{ on := 9, ground := Ground.guard }], guard := some (9, false) }) (v := undef) rfl (by kernel_rfl) (by kernel_rfl) (by kernel_rfl) (fun _ _ _ h => h) (Or.inr ⟨by rfl, rfl⟩) (by assumption) ?_
    try simp only [Act.put, List.setIfInBounds_toArray, List.set_cons_zero, List.set_cons_succ]
    refine wpAnyH_take (i := 12) (oi := { dst := some 17, op := Op.load 3 (Operand.tmp 16), type := 3, pos := "ref.go:118", after := #[{ on := 11, ground := Ground.data }, { on := 9, ground := Ground.guard }], guard := some (9, false) }) (v := undef) rfl (by kernel_rfl) (by kernel_rfl) (by kernel_rfl) (fun _ _ _ h => h) (Or.inr ⟨by rfl, rfl⟩) (by assumption) ?_
    try simp only [Act.put, List.setIfInBounds_toArray, List.set_cons_zero, List.set_cons_succ]
    refine wpAnyH_take (i := 13) (oi := { dst := some 18, op := Op.fieldAddr 40 (Operand.tmp 3) 1, type := 0, pos := "ref.go:118", after := #[{ on := 9, ground := Ground.guard }], guard := some (9, false) }) (v := undef) rfl (by kernel_rfl) (by kernel_rfl) (by kernel_rfl) (fun _ _ _ h => h) (Or.inr ⟨by rfl, rfl⟩) (by assumption) ?_
    try simp only [Act.put, List.setIfInBounds_toArray, List.set_cons_zero, List.set_cons_succ]
    refine wpAnyH_take (i := 14) (oi := { dst := some 19, op := Op.load 3 (Operand.tmp 18), type := 3, pos := "ref.go:118", after := #[{ on := 13, ground := Ground.data }, { on := 9, ground := Ground.guard }], guard := some (9, false) }) (v := undef) rfl (by kernel_rfl) (by kernel_rfl) (by kernel_rfl) (fun _ _ _ h => h) (Or.inr ⟨by rfl, rfl⟩) (by assumption) ?_
    try simp only [Act.put, List.setIfInBounds_toArray, List.set_cons_zero, List.set_cons_succ]
    refine wpAnyH_take (i := 15) (oi := { dst := some 20, op := Op.call { callee := Callee.value (Operand.func 82), args := #[Operand.tmp 15, Operand.tmp 17, Operand.tmp 19, Operand.const (Value.int IntKind.u8 1)], argTypes := #[26, 3, 3, 5] }, type := 32, pos := "ref.go:118", after := #[{ on := 10, ground := Ground.data }, { on := 12, ground := Ground.data }, { on := 14, ground := Ground.data }, { on := 9, ground := Ground.chain }, { on := 9, ground := Ground.guard }], guard := some (9, false) }) (v := undef) rfl (by kernel_rfl) (by kernel_rfl) (by kernel_rfl) (fun _ _ _ h => h) (Or.inr ⟨by rfl, rfl⟩) (by assumption) ?_
    try simp only [Act.put, List.setIfInBounds_toArray, List.set_cons_zero, List.set_cons_succ]
    refine wpAnyH_take (i := 16) (oi := { dst := some 21, op := Op.load 40 (Operand.tmp 3), type := 40, pos := "ref.go:118", after := #[{ on := 9, ground := Ground.guard }], guard := some (9, false) }) (v := undef) rfl (by kernel_rfl) (by kernel_rfl) (by kernel_rfl) (fun _ _ _ h => h) (Or.inr ⟨by rfl, rfl⟩) (by assumption) ?_
    try simp only [Act.put, List.setIfInBounds_toArray, List.set_cons_zero, List.set_cons_succ]
    refine wpAnyH_take (i := 17) (oi := { dst := some 22, op := Op.call { callee := Callee.value (Operand.func 53), args := #[Operand.tmp 20, Operand.tmp 21], argTypes := #[32, 40] }, type := 3, pos := "ref.go:118", after := #[{ on := 15, ground := Ground.data }, { on := 16, ground := Ground.data }, { on := 15, ground := Ground.chain }, { on := 9, ground := Ground.guard }], guard := some (9, false) }) (v := undef) rfl (by kernel_rfl) (by kernel_rfl) (by kernel_rfl) (fun _ _ _ h => h) (Or.inr ⟨by rfl, rfl⟩) (by assumption) ?_
    try simp only [Act.put, List.setIfInBounds_toArray, List.set_cons_zero, List.set_cons_succ]
    refine wpAnyH_take (i := 18) (oi := { dst := some 23, op := Op.binOp BinOp.geq 3 (Operand.tmp 22) (Operand.const (Value.int IntKind.i64 0)) 3, type := 4, pos := "ref.go:118", after := #[{ on := 17, ground := Ground.data }, { on := 9, ground := Ground.guard }], guard := some (9, false) }) (v := undef) rfl (by kernel_rfl) (by kernel_rfl) (by kernel_rfl) (fun _ _ _ h => h) (Or.inr ⟨by rfl, rfl⟩) (by assumption) ?_
    try simp only [Act.put, List.setIfInBounds_toArray, List.set_cons_zero, List.set_cons_succ]
    refine wpAnyH_take (i := 19) (oi := { dst := some 24, op := Op.pick (Operand.tmp 14) (Operand.const (Value.bool true)) (Operand.tmp 23), type := 4, pos := "ref.go:118", after := #[{ on := 9, ground := Ground.data }, { on := 18, ground := Ground.data }], guard := none }) (v := ?_) rfl (by kernel_rfl) (by kernel_rfl) (by kernel_rfl) (fun _ _ _ h => h) (Or.inl ⟨by rfl, ?_⟩) (by assumption) ?_
    rotate_left
    · intro w hSw; (try dsimp only at hSw); go_simp; (try (with_reducible rfl))
    try simp only [Act.put, List.setIfInBounds_toArray, List.set_cons_zero, List.set_cons_succ]
    refine wpAnyH_take (i := 20) (oi := { dst := some 4, op := Op.assign (Operand.tmp 24), type := 4, pos := "ref.go:118", after := #[{ on := 19, ground := Ground.data }, { on := 17, ground := Ground.chain }, { on := 0, ground := Ground.phase }, { on := 1, ground := Ground.phase }, { on := 2, ground := Ground.phase }, { on := 3, ground := Ground.phase }, { on := 4, ground := Ground.phase }, { on := 5, ground := Ground.phase }, { on := 6, ground := Ground.phase }, { on := 7, ground := Ground.phase }, { on := 8, ground := Ground.phase }, { on := 9, ground := Ground.phase }, { on := 10, ground := Ground.phase }, { on := 11, ground := Ground.phase }, { on := 12, ground := Ground.phase }, { on := 13, ground := Ground.phase }, { on := 14, ground := Ground.phase }, { on := 15, ground := Ground.phase }, { on := 16, ground := Ground.phase }, { on := 17, ground := Ground.phase }, { on := 18, ground := Ground.phase }, { on := 19, ground := Ground.phase }], guard := none }) (v := ?_) rfl (by kernel_rfl) (by kernel_rfl) (by kernel_rfl) (fun _ _ _ h => h) (Or.inl ⟨by rfl, ?_⟩) (by assumption) ?_
    rotate_left
    · intro w hSw; (try dsimp only at hSw); go_simp; (try (with_reducible rfl))
    try simp only [Act.put, List.setIfInBounds_toArray, List.set_cons_zero, List.set_cons_succ]
    refine wpAnyH_done (by kernel_rfl) ?_ _
    go_wp2
    go_ret
    exact ⟨ret_bool (by rw [HR.out]), SI_below (by assumption)⟩
end Go.Proofs.YtbfpgjnagpcbeaaGreatDoor

namespace Go.Proofs.YtbfpgjnagpcbeaaGreatDoor
open Go.RowKit Go.Shelf

theorem refCheckL {a : Ar.Are} {A : Option Addr} {c : Nat} {P : Nat → Option Addr × Nat} {W : World} (h : ArM W A P a) : Calls Tryz.prog 24 #[.agg #[.slice A a.ids.length c, .bool a.root.cell, .int .i64 a.root.n, .bool a.jumps]] W fun e w' => e = .returned (.int .i64 (Ar.checkOf a : Int)) ∧ Below W.heap.size W w' :=
  refCheck_any a A c P W h
set_option maxRecDepth 100000 in
set_option maxHeartbeats 4000000 in
theorem refMove_any (a : Ar.Are) (A : Option Addr) (c : Nat) (P : Nat → Option Addr × Nat) (m : Ar.Mv) (w : World) (hA : ArM w A P a) :
    Calls Tryz.prog 79 #[.agg #[.slice A a.ids.length c, .bool a.root.cell, .int .i64 a.root.n, .bool a.jumps], .agg #[.int .i64 m.id, .int .i64 m.arg, .int .u8 m.kind, .int .i64 m.n]] w fun e w' => e = .returned (.int .i64 (Ar.findErr a m : Int)) ∧ Below w.heap.size w w' := by
  have HF := Lib.hid (AB.first w a A c m)
  obtain ⟨e0, e1, e2, e3, -, -, -, -⟩ := cells4 HF.out.arg
  have HC := Lib.hid (refCheckL (c := c) (hA.below HF.out.below))
  by_cases h0 : Ar.checkOf a = 0
  · have hr := Ar.right_of_check h0
    have hfe := Ar.has_ref h0 m
    have HH := Lib.hid (fun W (hB : Below w.heap.size w W) => refHas_any a A c P m W (hA.below hB) hr)
    rw [h0] at HC
    rw [hfe]
    clear h0 hfe hA hr
    cases hh : Ar.hasRef a m
    all_goals
      rw [hh] at HH
      clear hh
      go_enter Tryz.func79, Tryz.ntmps79
      go_wp2_with (first
        | (go_at_call 34; refine (HH.out _ hF.below).mono ?_; rintro e w3 ⟨rfl, hB3⟩)
        | (go_at_call 24; refine HC.out.mono ?_; rintro e w2 ⟨rfl, hB2⟩; have hF := HF.out.next hB2; obtain ⟨x0, x1, x2, x3, -, -, -, -⟩ := cells4 hF.arg; obtain ⟨y0, y1, y2, y3, -, -, -, -⟩ := cells4 hF.mv))
      go_ret
      exact ⟨rfl, hF.below.trans (hB3.mono hF.below.size)⟩
  · have hfe : Ar.findErr a m = Ar.checkOf a := by unfold Ar.findErr; rw [if_neg h0]
    have hne : ((Ar.checkOf a : Int) != 0) = true := by rw [bne_iff_ne]; omega
    rw [hfe]
    clear hfe h0
    generalize Ar.checkOf a = er at *
    go_enter Tryz.func79, Tryz.ntmps79
    go_wp2_with (go_at_call 24; refine HC.out.mono ?_; rintro e w2 ⟨rfl, hB2⟩; have hF := HF.out.next hB2)
    go_ret
    exact ⟨rfl, hF.below⟩

namespace Ar
def whoseRef (a : Are) (m : Mv) : Bool := if findErr a m = 0 then otherRef m else false
end Ar
set_option maxRecDepth 100000 in
set_option maxHeartbeats 4000000 in
theorem refWhose_any (a : Ar.Are) (A : Option Addr) (c : Nat) (P : Nat → Option Addr × Nat) (m : Ar.Mv) (w : World) (hA : ArM w A P a) :
    Calls Tryz.prog 31 #[.agg #[.slice A a.ids.length c, .bool a.root.cell, .int .i64 a.root.n, .bool a.jumps], .agg #[.int .i64 m.id, .int .i64 m.arg, .int .u8 m.kind, .int .i64 m.n]] w fun e w' => e = .returned (.tuple #[.bool (Ar.whoseRef a m), .int .i64 (Ar.findErr a m : Int)]) ∧ Below w.heap.size w w' := by
  have HF := Lib.hid (AB.first w a A c m)
  obtain ⟨e0, e1, e2, e3, -, -, -, -⟩ := cells4 HF.out.arg
  obtain ⟨f0, f1, f2, f3, -, -, -, -⟩ := cells4 HF.out.mv
  have HM := Lib.hid (refMove_any a A c P m _ (hA.below HF.out.below))
  have HO := Lib.hid (fun W => refIsOther_any m W)
  have hw : Ar.whoseRef a m = if Ar.findErr a m = 0 then Ar.otherRef m else false := rfl
  clear hA
  by_cases h0 : Ar.findErr a m = 0
  · rw [if_pos h0] at hw
    rw [h0] at HM
    rw [h0, hw]
    clear h0 hw
    generalize Ar.otherRef m = R at *
    go_enter Tryz.func31, Tryz.ntmps31
    go_wp2_with (first
      | (go_at_call 80; refine (HO.out _).mono ?_; rintro e w3 ⟨rfl, hB3⟩)
      | (go_at_call 79; refine HM.out.mono ?_; rintro e w2 ⟨rfl, hB2⟩; have hF := HF.out.next hB2; obtain ⟨y0, y1, y2, y3, -, -, -, -⟩ := cells4 hF.mv))
    go_ret2
    exact ⟨rfl, hF.below.trans (hB3.mono hF.below.size)⟩
  · rw [if_neg h0] at hw
    have hne : ((Ar.findErr a m : Int) != 0) = true := by rw [bne_iff_ne]; omega
    rw [hw]
    clear h0 hw
    generalize Ar.findErr a m = er at *
    go_enter Tryz.func31, Tryz.ntmps31
    go_wp2_with (go_at_call 79; refine HM.out.mono ?_; rintro e w2 ⟨rfl, hB2⟩; have hF := HF.out.next hB2)
    go_ret2
    exact ⟨rfl, hF.below⟩

namespace Ar
theorem findErr_zero {a : Are} {m : Mv} (h : findErr a m = 0) : checkOf a = 0 ∧ hasRef a m = true ∧ ∃ b, placeOf a m.id m.arg = some b := by
  have hc : checkOf a = 0 := by
    by_cases h0 : checkOf a = 0
    · exact h0
    · unfold findErr at h
      rw [if_neg h0] at h
      exact h
  have hh : hasRef a m = true := by
    rw [has_ref hc m] at h
    by_cases h1 : hasRef a m = true
    · exact h1
    · rw [if_neg h1] at h; cases h
  refine ⟨hc, hh, ?_⟩
  cases hp : placeOf a m.id m.arg with
  | some b => exact ⟨b, rfl⟩
  | none =>
    unfold hasRef questionsAt toldAt at hh
    rw [hp] at hh
    simp at hh
/-- The answers of a question, or the error. -/
def ansErr (a : Are) (m : Mv) : Nat := if findErr a m = 0 then (if askOf m = true then 0 else 2) else findErr a m
def ansRef (a : Are) (m : Mv) : List Mv := if ansErr a m = 0 then toldAt a m.id m.arg m.kind else []
def undRef (a : Are) (m : Mv) : List Mv := if ansErr a m = 0 then belowOf a m else []
end Ar
set_option maxRecDepth 100000 in
set_option maxHeartbeats 4000000 in
theorem refAnswers_any (a : Ar.Are) (A : Option Addr) (c : Nat) (P : Nat → Option Addr × Nat) (m : Ar.Mv) (w : World) (hA : ArM w A P a) :
    Calls Tryz.prog 32 #[.agg #[.slice A a.ids.length c, .bool a.root.cell, .int .i64 a.root.n, .bool a.jumps], .agg #[.int .i64 m.id, .int .i64 m.arg, .int .u8 m.kind, .int .i64 m.n]] w fun e w' => ∃ v, e = .returned (.tuple #[v, .int .i64 (Ar.ansErr a m : Int)]) ∧ Made w (Ar.ansRef a m) v w' := by
  have HF := Lib.hid (AB.first w a A c m)
  obtain ⟨e0, e1, e2, e3, -, -, -, -⟩ := cells4 HF.out.arg
  obtain ⟨f0, f1, f2, f3, -, -, -, -⟩ := cells4 HF.out.mv
  have HM := Lib.hid (refMove_any a A c P m _ (hA.below HF.out.below))
  have HO := Lib.hid (fun W => refAsk_any m W)
  have he : Ar.ansErr a m = if Ar.findErr a m = 0 then (if Ar.askOf m = true then 0 else 2) else Ar.findErr a m := rfl
  have hl : Ar.ansRef a m = if Ar.ansErr a m = 0 then Ar.toldAt a m.id m.arg m.kind else [] := rfl
  by_cases h0 : Ar.findErr a m = 0
  · rw [if_pos h0] at he
    obtain ⟨hc0, -, -⟩ := Ar.findErr_zero h0
    have hr := Ar.right_of_check hc0
    have HT := Lib.hid (fun W (hB : Below w.heap.size w W) => refTold_any a A c P m.id m.arg m.kind W (hA.below hB) (fun b hb => (Ar.placeOf_right hr hb).2))
    rw [h0] at HM
    clear h0 hA hc0 hr
    cases hk : Ar.askOf m
    · rw [hk] at he HO
      rw [if_neg Bool.false_ne_true] at he
      rw [he, if_neg (by decide)] at hl
      rw [he, hl]
      clear he hl hk
      go_enter Tryz.func32, Tryz.ntmps32
      go_wp2_with (first
        | (go_at_call 81; refine (HO.out _).mono ?_; rintro e w3 ⟨rfl, hB3⟩)
        | (go_at_call 79; refine HM.out.mono ?_; rintro e w2 ⟨rfl, hB2⟩; have hF := HF.out.next hB2; obtain ⟨y0, y1, y2, y3, -, -, -, -⟩ := cells4 hF.mv))
      go_ret2
      exact ⟨_, rfl, World.ownsRow_nil _ _ _ _, hF.below.trans (hB3.mono hF.below.size)⟩
    · rw [hk] at he HO
      rw [if_pos rfl] at he
      rw [he, if_pos rfl] at hl
      rw [he, hl]
      clear he hl hk
      go_enter Tryz.func32, Tryz.ntmps32
      go_wp2_with (first
        | (go_at_call 82; refine (HT.out _ hF3.below).mono ?_; rintro e w4 ⟨v, rfl, ho, hB4⟩; have HO4 := Lib.hid ho)
        | (go_at_call 81; refine (HO.out _).mono ?_; rintro e w3 ⟨rfl, hB3⟩; have hF3 := hF.next hB3; obtain ⟨x0, x1, x2, x3, -, -, -, -⟩ := cells4 hF3.arg; obtain ⟨y0, y1, y2, y3, -, -, -, -⟩ := cells4 hF3.mv)
        | (go_at_call 79; refine HM.out.mono ?_; rintro e w2 ⟨rfl, hB2⟩; have hF := HF.out.next hB2; obtain ⟨y0, y1, y2, y3, -, -, -, -⟩ := cells4 hF.mv))
      go_ret2
      exact ⟨_, rfl, own_base HO4.out hF3.below.size, hF3.below.trans (hB4.mono hF3.below.size)⟩
  · rw [if_neg h0] at he
    rw [he, if_neg h0] at hl
    have hne : ((Ar.findErr a m : Int) != 0) = true := by rw [bne_iff_ne]; omega
    rw [he, hl]
    clear h0 he hl
    generalize Ar.findErr a m = er at *
    go_enter Tryz.func32, Tryz.ntmps32
    go_wp2_with (go_at_call 79; refine HM.out.mono ?_; rintro e w2 ⟨rfl, hB2⟩; have hF := HF.out.next hB2)
    go_ret2
    exact ⟨_, rfl, World.ownsRow_nil _ _ _ _, hF.below⟩
end Go.Proofs.YtbfpgjnagpcbeaaGreatDoor

namespace Go.Proofs.YtbfpgjnagpcbeaaGreatDoor
open Go.RowKit Go.Shelf

section
variable {P : Program} (w : World)
/-- append of any slice, nil or not, to a row of our own. -/
theorem wpList_append_any {ops : Array Oper} {rest : List Oper} {o : Oper} {a : Act} {Q : Exit → Act → World → Prop} (hgd : o.guard = none) (s x : Operand) (t : TypeId)
    (ho : o.op = .call { callee := .builtin .append, args := #[s, x], argTypes := #[t, t] })
    (base : Nat) (e : TypeId) (i : TypeInfo) (z : Value) (size bytes : Nat) (ht : P.underlying t = some (.slice e)) (hi : P.info? e = some i) (hz : i.zero = some z)
    (hsize : i.size = size) (hby : i.bytes = bytes) (hzs : z.cells.size = size) (hsz : 0 < size)
    (v : Value) (n : Nat) (xs : List Value) (hs : a.eval s = v) (hown : w.ownsRow base e size v n xs)
    (A : Option Addr) (m c k : Nat) (hk : n + m = k) (news : List Value) (hx : a.eval x = .slice A m c) (hnil : A = none → c = 0 ∧ m = 0) (hl : news.length = m * size) (hnews : ∀ ad, A = some ad → ∀ j u, news[j]? = some u → w.cell? (ad.add j) = some u) (h1 : ∀ u ∈ news, u.oneCell' = true)
    (h63 : n + m ≤ maxLen) (hbytes : (n + m) * bytes ≤ 140737488355328) (hbase : base ≤ w.heap.size)
    (h : ∀ A' c' w', w'.ownsRow base e size (.slice A' k c') k (xs ++ news) → w.grownBy w' v.ownBlock → wpList P ops Q rest (a.put o.dst (.slice A' k c')) w') : wpList P ops Q (o :: rest) a w := by
  subst hk
  cases A with
  | none =>
    obtain ⟨rfl, rfl⟩ := hnil rfl
    have hn0 : news = [] := List.length_eq_zero_iff.1 (by omega)
    subst hn0
    have hform : ∃ A' c', v = .slice A' (n + 0) c' := by
      rcases hown.2 with ⟨rfl, rfl⟩ | ⟨g, cap, cur, rfl, _⟩
      · exact ⟨none, 0, rfl⟩
      · exact ⟨_, _, rfl⟩
    obtain ⟨A', c', hv⟩ := hform
    refine wpList_append_own_none hgd s x t ho base e i size ht hi v n xs hs hown hx ?_
    rw [hv]
    exact h A' c' w (by rw [List.append_nil, ← hv]; exact hown) ⟨rfl, rfl, rfl, Nat.le_refl _, fun _ _ _ => rfl⟩
  | some ad =>
    refine wpList_append_own_at w hgd s x t ho base e i z size bytes ht hi hz hsize hby hzs hsz v n xs hs hown ad m c news hx hl (hnews ad rfl) h1 h63 hbytes hbase ?_
    intro v' w' h2 h3 _ _
    have hform : ∃ A' c', v' = .slice A' (n + m) c' := by
      rcases h2.2 with ⟨hv, h0⟩ | ⟨g, cap, cur, hv, _⟩
      · exact ⟨none, 0, by rw [hv, h0]⟩
      · exact ⟨_, _, hv⟩
    obtain ⟨A', c', rfl⟩ := hform
    exact h A' c' w' h2 h3
end

namespace Ar
theorem belowArgs_snoc (a : Are) (id : Int) : ∀ (j s : Nat), belowArgs a id s (j + 1) = belowArgs a id s j ++ questionsAt a id (((s + j : Nat) : Int) + 1)
  | 0, s => by simp [belowArgs]
  | j + 1, s => by
    rw [belowArgs, belowArgs_snoc a id j (s + 1), belowArgs, List.append_assoc, show s + 1 + j = s + (j + 1) by omega]
theorem belowIds_snoc (a : Are) : ∀ (j s : Nat), belowIds a s (j + 1) = belowIds a s j ++ questionsAt a (((s + j : Nat) : Int) + 1) 0
  | 0, s => by simp [belowIds]
  | j + 1, s => by
    rw [belowIds, belowIds_snoc a j (s + 1), belowIds, List.append_assoc, show s + 1 + j = s + (j + 1) by omega]
theorem belowArgs_len {a : Are} (h : Right a) (id : Int) (j s : Nat) : (belowArgs a id s j).length ≤ 65 * j := by
  induction j with
  | zero => exact Nat.zero_le _
  | succ j ih => rw [belowArgs_snoc, List.length_append]; have := (places_short h id (((s + j : Nat) : Int) + 1) 0).1; omega
theorem belowIds_len {a : Are} (h : Right a) (j s : Nat) : (belowIds a s j).length ≤ 65 * j := by
  induction j with
  | zero => exact Nat.zero_le _
  | succ j ih => rw [belowIds_snoc, List.length_append]; have := (places_short h (((s + j : Nat) : Int) + 1) 0 0).1; omega
end Ar
theorem AB.grown {w : World} {a : Ar.Are} {A : Option Addr} {c : Nat} {m : Ar.Mv} {W W' : World} {e : TypeId} {size n : Nat} {v : Value} {xs : List Value} (h : AB w a A c m W) (hown : W.ownsRow (w.heap.size + 2) e size v n xs) (hg : W.grownBy W' v.ownBlock) : AB w a A c m W' :=
  ⟨h.below.grown hg h.below.size (fun j e => by have := own_low hown e; omega), grown_far hown hg h.arg (by omega), grown_far hown hg h.mv (by omega)⟩
theorem own_nilc {W : World} {n₀ c k n size : Nat} {e : TypeId} {A : Option Addr} {xs : List Value} (h : W.ownsRow n₀ e size (.slice A k c) n xs) (hk : k = n) : A = none → c = 0 ∧ k = 0 := fun hA => by
  subst hA
  rcases h.2 with ⟨hv, h0⟩ | ⟨g, cap, cur, hv, _⟩
  · cases hv
    exact ⟨rfl, by omega⟩
  · cases hv

set_option maxRecDepth 100000 in
set_option maxHeartbeats 8000000 in
theorem refBelow_any (a : Ar.Are) (A : Option Addr) (c : Nat) (P : Nat → Option Addr × Nat) (m : Ar.Mv) (w : World) (hA : ArM w A P a) (hr : Ar.Right a) (hin : InIds a m.id) :
    Calls Tryz.prog 83 #[.agg #[.slice A a.ids.length c, .bool a.root.cell, .int .i64 a.root.n, .bool a.jumps], .agg #[.int .i64 m.id, .int .i64 m.arg, .int .u8 m.kind, .int .i64 m.n]] w fun e w' => ∃ v, e = .returned v ∧ Made w (Ar.belowOf a m) v w' := by
  obtain ⟨i0, hi, hz0, hz1, hz2⟩ := info_parts infoMv
  have HF := Lib.hid (AB.first w a A c m)
  obtain ⟨e0, e1, e2, e3, -, -, -, -⟩ := cells4 HF.out.arg
  obtain ⟨f0, f1, f2, f3, -, -, -, -⟩ := cells4 HF.out.mv
  have HQ := Lib.hid (fun (id arg : Int) W (hB : Below w.heap.size w W) => refQuestions_any a A c P id arg W (hA.below hB) (fun b hb => (Ar.placeOf_right hr hb).2))
  have HSH := Lib.hid (fun (id arg : Int) => (Ar.places_short hr id arg 0).1)
  have hids := hr.ids
  have hbo : Ar.belowOf a m = if 0 < m.id ∧ m.arg = 0 then Ar.belowArgs a m.id 0 (Ar.manyOf a m.id) else Ar.belowIds a 0 a.ids.length := rfl
  by_cases hm : 0 < m.id ∧ m.arg = 0
  · rw [if_pos hm] at hbo
    rw [hbo]
    obtain ⟨k, t, hid, ht⟩ := hin hm.1
    have hk := (List.getElem?_eq_some_iff.1 ht).1
    obtain ⟨b, off, hAe, hbB, hc⟩ := hA.tys (by intro e; rw [e] at hk; simp at hk)
    obtain ⟨c0, c1, c2, -⟩ := hc k t ht
    have ht5 := hr.long t (List.mem_of_getElem? ht)
    have HBL := Lib.hid (fun j => Ar.belowArgs_len hr m.id j 0)
    have hmany : Ar.manyOf a m.id = t.params.length := by rw [hid]; exact Ar.manyOf_id ht
    rw [hmany]
    have C0 := Lib.hid c0
    generalize (P k).1 = PA at *
    generalize (P k).2 = pc at *
    have hd1 : decide (0 < m.id) = true := decide_eq_true hm.1
    have hd2 : (m.arg == 0) = true := by rw [eq0_dec]; exact decide_eq_true hm.2
    have hkk : (k : Int) + 1 - 1 = (k : Int) := by omega
    have hw1 : IntKind.i64.wrap ((k : Int) + 1 - 1) = (k : Int) := by rw [hkk]; exact IntWalk.i64_in _ (by omega)
    have hw2 : IntKind.i64.wrap (k : Int) = (k : Int) := IntWalk.i64_in _ (by omega)
    have hb0 : (0 : Int) ≤ (k : Int) := by omega
    have hb1 : (k : Int) < (a.ids.length : Int) := by omega
    have hb2 : (k : Int) ≤ (a.ids.length : Int) := by omega
    have HID := Lib.hid hid
    have hm1 := hm.1
    clear hbo hm hin hc c0 c1 c2 ht hmany hid hA hr
    subst hAe
    go_enter Tryz.func83, Tryz.ntmps83
    go_wp2
    clear e0 e1 e2 e3 f0 f1 f2 f3
    go_loopw [5, 6] (fun v i wr => ∃ (j : Nat), j ≤ t.params.length ∧ i = .int .i64 ((j : Int) + 1) ∧ Hid (wr.ownsRow (w.heap.size + 2) 40 4 v (Ar.belowArgs a m.id 0 j).length (mvsCells (Ar.belowArgs a m.id 0 j))) ∧ Hid (AB w a (some ⟨b, off, none⟩) c m wr)) (fun _ i _ => t.params.length + 1 - (intOf i).toNat)
    case atStart => exact ⟨0, Nat.zero_le _, by simp, World.ownsRow_nil _ _ _ _, HF.out⟩
    case round =>
      obtain ⟨j, hj, rfl, hrow, hF⟩ := hrel
      obtain ⟨ao, cap, hv⟩ := own_form hrow.out
      subst hv
      obtain ⟨e0, e1, e2, e3, -, -, -, -⟩ := cells4 hF.out.arg
      obtain ⟨f0, f1, f2, f3, -, -, -, -⟩ := cells4 hF.out.mv
      have g0 := (hF.out.below.cell (p := ⟨b, off + k * 3, none⟩) hbB).trans C0.out
      have hidd := HID.out
      rw [hidd] at f0
      by_cases hlt : j < t.params.length
      · have hle : ((j : Int) + 1 ≤ (t.params.length : Int)) := by omega
        have HQ1 := Lib.hid (HQ.out m.id ((j : Int) + 1))
        have hbl := HBL.out j
        have hq65 := HSH.out m.id ((j : Int) + 1)
        have hsn : Ar.belowArgs a m.id 0 (j + 1) = Ar.belowArgs a m.id 0 j ++ Ar.questionsAt a m.id ((j : Int) + 1) := by rw [Ar.belowArgs_snoc, Nat.zero_add]
        have HSN := Lib.hid hsn
        clear hsn
        generalize Ar.belowArgs a m.id 0 j = BL at *
        generalize Ar.questionsAt a m.id ((j : Int) + 1) = QL at *
        rw [hidd] at HQ1
        clear hidd
        go_wp2_with (first
          | (at_builtin; go_loud (refine wpList_append_any _ rfl _ _ 32 rfl (w.heap.size + 2) 40 i0 (.agg #[.int .i64 0, .int .i64 0, .int .u8 0, .int .i64 0]) 4 32 Tryz.underlying32 hi hz0 hz1 hz2 rfl (by decide) _ _ _ rfl hr3.out ao3 QL.length cap3 (BL.length + QL.length) rfl (mvsCells QL) rfl hn3 (mvsCells_len _) (mvsCells_at hm3) (mvsCells_one _) (by unfold maxLen; omega) (by omega) (lt_of_heap hF3.out.mv) ?_); intro A9 c9 w9 hown9 hgrow)
          | (go_at_call 84; refine (HQ1.out _ hF.out.below).mono ?_; rintro e w3 ⟨v3, rfl, ho, hB3⟩; obtain ⟨ao3, cap3, hv3⟩ := own_form ho; subst hv3; have hm3 := mvs_of_own ho; have hn3 := own_nilc ho rfl; have hr3 := Lib.hid (own_ext hrow.out (Ext.of_below hB3 (Nat.le_refl _))); have hF3 := Lib.hid (hF.out.next hB3)))
        go_roundw
        case rel =>
          refine ⟨j + 1, by omega, by go_num, ?_, ?_⟩
          · rw [Hid, HSN.out, List.length_append, mvsCells, List.flatMap_append]
            exact hown9
          · exact hF3.out.grown hr3.out hgrow
        case measure => simp [intOf]; omega
      · obtain rfl : j = t.params.length := by omega
        have hle : ¬ ((t.params.length : Int) + 1 ≤ (t.params.length : Int)) := by omega
        clear hidd
        go_wp2
        go_ret
        exact ⟨_, rfl, own_base hrow.out (by omega), hF.out.below⟩
  · rw [if_neg hm] at hbo
    rw [hbo]
    have HBL := Lib.hid (fun j => Ar.belowIds_len hr j 0)
    have HT := Lib.hid hA.tys
    clear hbo hin hA hr
    have main : Hid ((decide (0 < m.id) = false) ∨ (decide (0 < m.id) = true ∧ (m.arg == 0) = false)) := by
      by_cases h1 : 0 < m.id
      · refine .inr ⟨decide_eq_true h1, ?_⟩
        rw [eq0_dec]; exact decide_eq_false (fun h2 => hm ⟨h1, h2⟩)
      · exact .inl (decide_eq_false h1)
    rcases main.out with hd1 | ⟨hd1, hd2⟩
    all_goals
      go_enter Tryz.func83, Tryz.ntmps83
      go_wp2
      clear e0 e1 e2 e3 f0 f1 f2 f3
      go_loopw [5, 7] (fun v i wr => ∃ (j : Nat), j ≤ a.ids.length ∧ i = .int .i64 ((j : Int) + 1) ∧ Hid (wr.ownsRow (w.heap.size + 2) 40 4 v (Ar.belowIds a 0 j).length (mvsCells (Ar.belowIds a 0 j))) ∧ Hid (AB w a A c m wr)) (fun _ i _ => a.ids.length + 1 - (intOf i).toNat)
      case atStart => exact ⟨0, Nat.zero_le _, by simp, World.ownsRow_nil _ _ _ _, HF.out⟩
      case round =>
        obtain ⟨j, hj, rfl, hrow, hF⟩ := hrel
        obtain ⟨ao, cap, hv⟩ := own_form hrow.out
        subst hv
        obtain ⟨e0, e1, e2, e3, -, -, -, -⟩ := cells4 hF.out.arg
        by_cases hlt : j < a.ids.length
        · have hle : ((j : Int) + 1 ≤ (a.ids.length : Int)) := by omega
          have HQ1 := Lib.hid (HQ.out ((j : Int) + 1) 0)
          have hbl := HBL.out j
          have hq65 := HSH.out ((j : Int) + 1) 0
          have hsn : Ar.belowIds a 0 (j + 1) = Ar.belowIds a 0 j ++ Ar.questionsAt a ((j : Int) + 1) 0 := by rw [Ar.belowIds_snoc, Nat.zero_add]
          have HSN := Lib.hid hsn
          clear hsn
          generalize Ar.belowIds a 0 j = BL at *
          generalize Ar.questionsAt a ((j : Int) + 1) 0 = QL at *
          go_wp2_with (first
            | (at_builtin; go_loud (refine wpList_append_any _ rfl _ _ 32 rfl (w.heap.size + 2) 40 i0 (.agg #[.int .i64 0, .int .i64 0, .int .u8 0, .int .i64 0]) 4 32 Tryz.underlying32 hi hz0 hz1 hz2 rfl (by decide) _ _ _ rfl hr3.out ao3 QL.length cap3 (BL.length + QL.length) rfl (mvsCells QL) rfl hn3 (mvsCells_len _) (mvsCells_at hm3) (mvsCells_one _) (by unfold maxLen; omega) (by omega) (lt_of_heap hF3.out.mv) ?_); intro A9 c9 w9 hown9 hgrow)
            | (go_at_call 84; refine (HQ1.out _ hF.out.below).mono ?_; rintro e w3 ⟨v3, rfl, ho, hB3⟩; obtain ⟨ao3, cap3, hv3⟩ := own_form ho; subst hv3; have hm3 := mvs_of_own ho; have hn3 := own_nilc ho rfl; have hr3 := Lib.hid (own_ext hrow.out (Ext.of_below hB3 (Nat.le_refl _))); have hF3 := Lib.hid (hF.out.next hB3)))
          go_roundw
          case rel =>
            refine ⟨j + 1, by omega, by go_num, ?_, ?_⟩
            · rw [Hid, HSN.out, List.length_append, mvsCells, List.flatMap_append]
              exact hown9
            · exact hF3.out.grown hr3.out hgrow
          case measure => simp [intOf]; omega
        · obtain rfl : j = a.ids.length := by omega
          have hle : ¬ ((a.ids.length : Int) + 1 ≤ (a.ids.length : Int)) := by omega
          go_wp2
          go_ret
          exact ⟨_, rfl, own_base hrow.out (by omega), hF.out.below⟩

set_option maxRecDepth 100000 in
set_option maxHeartbeats 4000000 in
theorem refUnder_any (a : Ar.Are) (A : Option Addr) (c : Nat) (P : Nat → Option Addr × Nat) (m : Ar.Mv) (w : World) (hA : ArM w A P a) :
    Calls Tryz.prog 33 #[.agg #[.slice A a.ids.length c, .bool a.root.cell, .int .i64 a.root.n, .bool a.jumps], .agg #[.int .i64 m.id, .int .i64 m.arg, .int .u8 m.kind, .int .i64 m.n]] w fun e w' => ∃ v, e = .returned (.tuple #[v, .int .i64 (Ar.ansErr a m : Int)]) ∧ Made w (Ar.undRef a m) v w' := by
  have HF := Lib.hid (AB.first w a A c m)
  obtain ⟨e0, e1, e2, e3, -, -, -, -⟩ := cells4 HF.out.arg
  obtain ⟨f0, f1, f2, f3, -, -, -, -⟩ := cells4 HF.out.mv
  have HM := Lib.hid (refMove_any a A c P m _ (hA.below HF.out.below))
  have HO := Lib.hid (fun W => refAsk_any m W)
  have he : Ar.ansErr a m = if Ar.findErr a m = 0 then (if Ar.askOf m = true then 0 else 2) else Ar.findErr a m := rfl
  have hl : Ar.undRef a m = if Ar.ansErr a m = 0 then Ar.belowOf a m else [] := rfl
  by_cases h0 : Ar.findErr a m = 0
  · rw [if_pos h0] at he
    obtain ⟨hc0, -, b, hb⟩ := Ar.findErr_zero h0
    have hr := Ar.right_of_check hc0
    have HT := Lib.hid (fun W (hB : Below w.heap.size w W) => refBelow_any a A c P m W (hA.below hB) hr (Ar.placeOf_in hb))
    rw [h0] at HM
    clear h0 hA hc0 hr hb
    cases hk : Ar.askOf m
    · rw [hk] at he HO
      rw [if_neg Bool.false_ne_true] at he
      rw [he, if_neg (by decide)] at hl
      rw [he, hl]
      clear he hl hk
      go_enter Tryz.func33, Tryz.ntmps33
      go_wp2_with (first
        | (go_at_call 81; refine (HO.out _).mono ?_; rintro e w3 ⟨rfl, hB3⟩)
        | (go_at_call 79; refine HM.out.mono ?_; rintro e w2 ⟨rfl, hB2⟩; have hF := HF.out.next hB2; obtain ⟨y0, y1, y2, y3, -, -, -, -⟩ := cells4 hF.mv))
      go_ret2
      exact ⟨_, rfl, World.ownsRow_nil _ _ _ _, hF.below.trans (hB3.mono hF.below.size)⟩
    · rw [hk] at he HO
      rw [if_pos rfl] at he
      rw [he, if_pos rfl] at hl
      rw [he, hl]
      clear he hl hk
      go_enter Tryz.func33, Tryz.ntmps33
      go_wp2_with (first
        | (go_at_call 83; refine (HT.out _ hF3.below).mono ?_; rintro e w4 ⟨v, rfl, ho, hB4⟩; have HO4 := Lib.hid ho)
        | (go_at_call 81; refine (HO.out _).mono ?_; rintro e w3 ⟨rfl, hB3⟩; have hF3 := hF.next hB3; obtain ⟨x0, x1, x2, x3, -, -, -, -⟩ := cells4 hF3.arg; obtain ⟨y0, y1, y2, y3, -, -, -, -⟩ := cells4 hF3.mv)
        | (go_at_call 79; refine HM.out.mono ?_; rintro e w2 ⟨rfl, hB2⟩; have hF := HF.out.next hB2; obtain ⟨y0, y1, y2, y3, -, -, -, -⟩ := cells4 hF.mv))
      go_ret2
      exact ⟨_, rfl, own_base HO4.out hF3.below.size, hF3.below.trans (hB4.mono hF3.below.size)⟩
  · rw [if_neg h0] at he
    rw [he, if_neg h0] at hl
    have hne : ((Ar.findErr a m : Int) != 0) = true := by rw [bne_iff_ne]; omega
    rw [he, hl]
    clear h0 he hl
    generalize Ar.findErr a m = er at *
    go_enter Tryz.func33, Tryz.ntmps33
    go_wp2_with (go_at_call 79; refine HM.out.mono ?_; rintro e w2 ⟨rfl, hB2⟩; have hF := HF.out.next hB2)
    go_ret2
    exact ⟨_, rfl, World.ownsRow_nil _ _ _ _, hF.below⟩
end Go.Proofs.YtbfpgjnagpcbeaaGreatDoor
