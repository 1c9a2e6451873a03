/-
  WALKS: all moves of an arena.
-/
import Derived.Test.YtepdlghobopdbaaGreatDoorAp
namespace Go.Proofs.YtepdlghobopdbaaGreatDoor
open Go.RowKit Go.Shelf

namespace Ar
theorem moves_length {p : Pl} (h : p.base.n ≤ 64) : (movesOf p).length ≤ 130 := by
  have h1 : p.base.n.toNat ≤ 64 := by omega
  unfold movesOf questionsOf putsOf answersOf tellsOf escOf
  rw [List.length_append, List.length_cons, List.length_append, valsFrom_length]
  have a1 : (if p.base.cell = true then valsFrom p 2 0 p.base.n.toNat else []).length ≤ 64 := by
    split
    · rw [valsFrom_length]; exact h1
    · exact Nat.zero_le _
  have a2 : (if p.jumps = true then [mvOf p 3 (-1)] else []).length ≤ 1 := by split <;> simp
  omega
theorem types_length (j : Bool) : ∀ (l : List Ty) (i : Nat), (∀ t ∈ l, t.params.length ≤ 5) → (typesFrom j i l).length ≤ 6 * l.length
  | [], _, _ => Nat.le_refl _
  | t :: l, i, h => by
    have h1 := h t (.head _)
    have h2 := types_length j l (i + 1) (fun t ht => h t (.tail _ ht))
    simp only [typesFrom, List.length_cons, List.length_append, paramsFrom_length]
    omega
theorem places_length {a : Are} (h : Right a) : (placesOf a).length ≤ 49 := by
  have := types_length a.jumps a.ids 0 h.long
  have := h.ids
  unfold placesOf
  rw [List.length_cons]; omega
theorem flat_length {α β : Type} (f : α → List β) (m : Nat) : ∀ (l : List α), (∀ x ∈ l, (f x).length ≤ m) → (l.flatMap f).length ≤ m * l.length
  | [], _ => by simp
  | x :: l, h => by
    have h1 := h x (.head _)
    have h2 := flat_length f m l (fun x hx => h x (.tail _ hx))
    rw [List.flatMap_cons, List.length_append, List.length_cons, Nat.mul_succ]; omega
theorem all_length {a : Are} (h : Right a) : (allOf a).length ≤ 6370 := by
  have h1 := flat_length movesOf 130 (placesOf a) (fun p hp => moves_length (place_right h p hp).2)
  have h2 := places_length h
  unfold allOf
  omega
def movesRes (a : Are) : List Mv := if checkOf a = 0 then allOf a else []
end Ar

theorem arM_of_right {a : Ar.Are} (h : Ar.Right a) : a.ids.length ≤ 1000 ∧ ∀ t ∈ a.ids, t.params.length ≤ 1000 := ⟨by have := h.ids; omega, fun t ht => by have := h.long t ht; omega⟩

theorem rtRes_form (A : Option Addr) (c : Nat) (a : Ar.Are) : ∃ A1 n1 c1 x1 x2 x3, rtRes A c a = .agg #[.slice A1 n1 c1, .bool x1, .int .i64 x2, .bool x3] := by
  unfold rtRes arV arZ; split <;> exact ⟨_, _, _, _, _, _, rfl⟩

set_option maxRecDepth 100000 in
set_option maxHeartbeats 1000000 in
theorem check_any (a : Ar.Are) (A : Option Addr) (c : Nat) (P : Nat → Option Addr × Nat) (w : World) (hA : ArM w A P a) :
    Calls Tryz.prog 21 #[arV A c a] w fun e w' => e = .returned (.int .i64 (Ar.checkOf a : Int)) ∧ Below w.heap.size w w' := by
  have hB0 : Below w.heap.size w (w.alloc (.cells #[.slice A a.ids.length c, .bool a.root.cell, .int .i64 a.root.n, .bool a.jumps] 27)) := (Below.refl _ _).alloc (Nat.le_refl _) _
  have HR := Lib.hid (rightOf_any a A c P _ (hA.below hB0))
  obtain ⟨A1, n1, c1, x1, x2, x3, hx⟩ := rtRes_form A c a
  rw [hx] at HR
  have hav : arV A c a = .agg #[.slice A a.ids.length c, .bool a.root.cell, .int .i64 a.root.n, .bool a.jumps] := rfl
  rw [hav] at HR ⊢; clear hav hx hA
  go_enter Tryz.func21, Tryz.ntmps21
  go_wp2_with (go_at_call 44; refine HR.out.mono ?_; rintro e w2 ⟨rfl, hB2⟩; have hBw2 := hB0.trans (hB2.mono hB0.size))
  go_ret
  exact ⟨rfl, hBw2.alloc hBw2.size _⟩

theorem own_base {w : World} {base base' : Nat} {e : TypeId} {size : Nat} {v : Value} {n : Nat} {xs : List Value} (h : w.ownsRow base e size v n xs) (hb : base' ≤ base) : w.ownsRow base' e size v n xs := by
  refine ⟨h.1, ?_⟩
  rcases h.2 with hn | ⟨g, cap, cur, hv, hb2, rest⟩
  · exact .inl hn
  · exact .inr ⟨g, cap, cur, hv, Nat.le_trans hb hb2, rest⟩

set_option maxRecDepth 100000 in
set_option maxHeartbeats 2000000 in
theorem moves_any (a : Ar.Are) (A : Option Addr) (c : Nat) (P : Nat → Option Addr × Nat) (w : World) (hA : ArM w A P a) :
    Calls Tryz.prog 26 #[arV A c a] w fun e w' => ∃ v, e = .returned (.tuple #[v, .int .i64 (Ar.checkOf a : Int)]) ∧ w'.ownsRow w.heap.size 37 4 v (Ar.movesRes a).length (mvsCells (Ar.movesRes a)) ∧ Below w.heap.size w w' := by
  have hB0 : Below w.heap.size w (w.alloc (.cells #[.slice A a.ids.length c, .bool a.root.cell, .int .i64 a.root.n, .bool a.jumps] 27)) := (Below.refl _ _).alloc (Nat.le_refl _) _
  have HR := Lib.hid (rightOf_any a A c P _ (hA.below hB0))
  by_cases h0 : Ar.checkOf a = 0
  · have hr := Ar.right_of_check h0
    obtain ⟨hl1, hl2⟩ := arM_of_right hr
    have HL := Lib.hid (fun W (hB : Below w.heap.size w W) => list_moves 63 #[arV A c a] #[] (Ar.placesOf a) Ar.movesOf W (fun args w => enters_of Tryz.func63 (by kernel_rfl) rfl args w) (places_gives 1 (Nat.le_refl _) a A c W.heap.size P hl1 hl2) (fun _ _ => trivial) (fun W1 h => ((hA.below hB).tys).below h)
      (fun p hp => moves_gives 1 (Nat.le_refl _) p (Ar.place_right hr p hp).1 (Ar.place_right hr p hp).2) (by have := Ar.all_length hr; unfold Ar.allOf at this; omega))
    have hm : Ar.movesRes a = (Ar.placesOf a).flatMap Ar.movesOf := by unfold Ar.movesRes; rw [if_pos h0]; rfl
    have HM := Lib.hid hm; clear hm
    have hx : rtRes A c a = .agg #[.slice A a.ids.length c, .bool a.root.cell, .int .i64 a.root.n, .bool a.jumps] := by unfold rtRes; rw [if_pos h0]; rfl
    rw [hx, h0] at HR
    rw [h0]
    have hav : arV A c a = .agg #[.slice A a.ids.length c, .bool a.root.cell, .int .i64 a.root.n, .bool a.jumps] := rfl
    rw [hav] at HR HL ⊢
    clear hav hx h0 hr hl1 hl2 hA
    go_enter Tryz.func26, Tryz.ntmps26
    go_wp2_with (first
      | (go_at_call 41; refine (HL.out _ (hBw2.alloc hBw2.size _)).mono ?_; rintro e w3 ⟨v3, rfl, h3, hB3⟩; have H3 := Lib.hid h3; clear h3; have hBw3 := (hBw2.alloc hBw2.size (.cells #[.slice A a.ids.length c, .bool a.root.cell, .int .i64 a.root.n, .bool a.jumps] 66)).trans (hB3.mono (Nat.le_trans hBw2.size (by simp))))
      | (go_at_call 44; refine HR.out.mono ?_; rintro e w2 ⟨rfl, hB2⟩; have hBw2 := hB0.trans (hB2.mono hB0.size)))
    go_ret2
    exact ⟨v3, rfl, by rw [HM.out]; exact own_base H3.out (Nat.le_trans hBw2.size (by simp)), hBw3⟩
  · have hm : Ar.movesRes a = [] := by unfold Ar.movesRes; rw [if_neg h0]
    have HM := Lib.hid hm; clear hm
    obtain ⟨A1, n1, c1, x1, x2, x3, hx⟩ := rtRes_form A c a
    rw [hx] at HR
    have hav : arV A c a = .agg #[.slice A a.ids.length c, .bool a.root.cell, .int .i64 a.root.n, .bool a.jumps] := rfl
    rw [hav] at HR ⊢
    have hne : ((Ar.checkOf a : Int) != 0) = true := by rw [bne_iff_ne]; omega
    clear hav hx h0 hA
    generalize Ar.checkOf a = er at *
    go_enter Tryz.func26, Tryz.ntmps26
    go_wp2_with (go_at_call 44; refine HR.out.mono ?_; rintro e w2 ⟨rfl, hB2⟩; have hBw2 := hB0.trans (hB2.mono hB0.size))
    go_ret2
    exact ⟨_, rfl, by rw [HM.out]; exact World.ownsRow_nil _ _ _ _, hBw2.alloc hBw2.size _⟩
end Go.Proofs.YtepdlghobopdbaaGreatDoor
