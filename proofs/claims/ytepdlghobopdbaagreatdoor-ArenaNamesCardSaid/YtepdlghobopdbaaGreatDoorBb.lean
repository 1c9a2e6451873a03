/-
  WALKS: the arena of what stands for an identifier.
-/
import Derived.Test.YtepdlghobopdbaaGreatDoorBa
import Derived.Deep.RegionHeld3
import Derived.IntWalk
namespace Go.Proofs.YtepdlghobopdbaaGreatDoor
open Go.RowKit Go.Shelf

namespace Ar
theorem params_arg : ∀ (l : List Bs) (i j : Nat), ∀ p ∈ paramsFrom i j l, 0 < p.arg
  | [], _, _, p, h => by cases h
  | b :: l, i, j, p, h => by
    rcases List.mem_cons.1 h with rfl | h
    · simp only; omega
    · exact params_arg l i (j + 1) p h
theorem types_id (jm : Bool) : ∀ (l : List Ty) (i : Nat), ∀ p ∈ typesFrom jm i l, p.arg = 0 → ∃ (k : Nat) (t : Ty), l[k]? = some t ∧ p = ⟨t.result, ((i + k : Nat) : Int) + 1, 0, jm || decide (0 < t.params.length)⟩
  | [], _, p, h, _ => by cases h
  | t :: l, i, p, h, h0 => by
    rcases List.mem_cons.1 h with rfl | h
    · exact ⟨0, t, rfl, rfl⟩
    · rcases List.mem_append.1 h with h | h
      · have := params_arg t.params i 0 p h; omega
      · obtain ⟨k, t', h1, h2⟩ := types_id jm l (i + 1) p h h0
        exact ⟨k + 1, t', by simpa using h1, by rw [h2, show i + 1 + k = i + (k + 1) by omega]⟩
def innerErr (a : Are) (id : Int) : Nat := if checkOf a = 0 then (match atOf a id 0 with | some p => if isId p = true then 0 else 7 | none => 7) else checkOf a
def aloneTy (b : Bs) : Ty := ⟨[], b⟩
def noAre : Are := ⟨[], ⟨false, 0⟩, false⟩
def innerOf (a : Are) (t : Ty) : Are := ⟨t.params.map aloneTy, t.result, a.jumps || decide (0 < t.params.length)⟩
def innerRes (a : Are) (id : Int) : Are := if innerErr a id = 0 then (match a.ids[(id - 1).toNat]? with | some t => innerOf a t | none => noAre) else noAre
theorem inner_some {a : Are} {id : Int} {p : Pl} (h : atOf a id 0 = some p) (hi : isId p = true) : ∃ (k : Nat) (t : Ty), a.ids[k]? = some t ∧ id = (k : Int) + 1 ∧ p = ⟨t.result, (k : Int) + 1, 0, a.jumps || decide (0 < t.params.length)⟩ := by
  have hm := List.mem_of_find?_eq_some h
  have hp := List.find?_some h
  unfold atIs at hp
  simp only [Bool.and_eq_true, decide_eq_true_eq] at hp
  unfold isId at hi
  simp only [Bool.and_eq_true, decide_eq_true_eq] at hi
  rcases List.mem_cons.1 hm with rfl | hm
  · have := hi.1; simp at this
  · obtain ⟨k, t, h1, h2⟩ := types_id a.jumps a.ids 0 p hm hi.2
    rw [Nat.zero_add] at h2
    refine ⟨k, t, h1, ?_, h2⟩
    rw [← hp.1, h2]
end Ar

theorem own_cell {w : World} {base : Nat} {e : TypeId} {size : Nat} {ao : Option Addr} {n n' cap : Nat} {xs : List Value} (h : w.ownsRow base e size (.slice ao n' cap) n xs) (hn : 0 < n) :
    ∃ g, ao = some ⟨g, 0, none⟩ ∧ base ≤ g ∧ g < w.heap.size ∧ ∀ (j : Nat) u, xs[j]? = some u → w.cell? ⟨g, j, none⟩ = some u := by
  rcases h.2 with ⟨_, h0⟩ | ⟨g, cap', cur, hv, hb, hg, _, _, _, hx⟩
  · omega
  · injection hv with hv _ _
    refine ⟨g, hv, hb, lt_of_heap hg, fun j u hu => ?_⟩
    rw [← hx] at hu
    have hj : j < n * size := by
      have := (List.getElem?_eq_some_iff.1 hu).1
      rw [List.length_take] at this; omega
    rw [List.getElem?_take_of_lt hj] at hu
    simpa [World.cell?, hg] using hu
theorem flat_get {α : Type} {f : α → List Value} {s : Nat} (hs : ∀ x, (f x).length = s) : ∀ (l : List α) (i : Nat) (x : α), l[i]? = some x → ∀ j, j < s → (l.flatMap f)[i * s + j]? = (f x)[j]?
  | [], _, _, h, _, _ => by simp at h
  | y :: l, 0, x, h, j, hj => by
    simp only [List.getElem?_cons_zero, Option.some.injEq] at h
    subst h
    rw [List.flatMap_cons, List.getElem?_append_left (by rw [hs]; omega), Nat.zero_mul, Nat.zero_add]
  | y :: l, i + 1, x, h, j, hj => by
    rw [List.getElem?_cons_succ] at h
    rw [List.flatMap_cons, List.getElem?_append_right (by rw [hs, Nat.succ_mul]; omega), hs, show (i + 1) * s + j - s = i * s + j by rw [Nat.succ_mul]; omega]
    exact flat_get hs l i x h j hj
theorem tys_alone {w : World} {base : Nat} {ao : Option Addr} {cap n' : Nat} (l : List Ar.Bs) (h : w.ownsRow base 53 3 (.slice ao n' cap) l.length (l.flatMap aloneCells)) : Tys w w.heap.size ao (fun _ => (none, 0)) (l.map Ar.aloneTy) := fun hne => by
  have hn : 0 < l.length := by
    rcases Nat.eq_zero_or_pos l.length with e | e
    · exact absurd (by rw [List.length_eq_zero_iff.1 e]; rfl) hne
    · exact e
  obtain ⟨g, rfl, _, hlt, hc⟩ := own_cell h hn
  refine ⟨g, 0, rfl, hlt, fun i t ht => ?_⟩
  rw [List.getElem?_map] at ht
  obtain ⟨b, hb, rfl⟩ := Option.map_eq_some_iff.1 ht
  have hf := flat_get (f := aloneCells) (s := 3) (fun _ => rfl) l i b hb
  simp only [Nat.zero_add]
  exact ⟨hc _ _ (hf 0 (by omega)), hc _ _ (hf 1 (by omega)), hc _ _ (hf 2 (by omega)), fun h => absurd rfl h⟩

def InnerPost (w : World) (b : Ar.Are) (er : Nat) (e : Ending) (w' : World) : Prop := ∃ A c P, e = .returned (.tuple #[arV A c b, .int .i64 (er : Int)]) ∧ ArM w' A P b ∧ Below w.heap.size w w'
theorem noAre_m (w : World) : ArM w none (fun _ => (none, 0)) Ar.noAre := ⟨by simp [Ar.noAre], fun t ht => by simp [Ar.noAre] at ht, fun h => absurd rfl h⟩

/-- What a cell holds, whatever it is. -/
def cv (a : Addr) (W : World) : Value := (W.cell? a).getD undef
theorem cv_of {W : World} {a : Addr} {v : Value} (h : W.cell? a = some v) : W.cell? a = some (cv a W) := by unfold cv; rw [h]; rfl
theorem cv_set {W : World} {a p : Addr} {u v : Value} (h : W.cell? a = some v) : ∃ x, (W.setCell p u).cell? a = some x := by
  by_cases e : a = p
  · subst e; exact ⟨u, World.cell?_setCell_same' _ _ _ (by rw [h]; rfl)⟩
  · exact ⟨v, (World.cell?_setCell_other _ _ _ _ (fun h => e h.symm)).trans h⟩
theorem keep_frozen {W w1 : World} (hb : Below W.heap.size W w1) {a : Addr} {v : Value} (h : W.cell? a = some v) (hf : W.frozen? a = false) : w1.frozen? a = false := (hb.frozen (block_of_cell h)).trans hf
theorem keep_set {W : World} {a p : Addr} {u v : Value} (hne : a.block ≠ p.block) (h : W.cell? a = some v) : (W.setCell p u).cell? a = some v := (World.cell?_of_block (Below.heap_setCell W p u a.block hne)).trans h
theorem SI_set {w W : World} {rt pl b off k n c tl pc rb : Nat} {PA : Option Addr} {c0 jm : Bool} {n0 : Int} {v0 v1 v2 v3 : Value} (h1 : rt ≠ rb) (h2 : b ≠ rb) (h3 : pl ≠ rb) (h4 : w.heap.size ≤ rb) (h : Below w.heap.size w W ∧ W.cell? ⟨rt, 0, none⟩ = some (.slice (some ⟨b, off, none⟩) n c) ∧ W.cell? ⟨b, off + k * 3, none⟩ = some (.slice PA tl pc) ∧ W.cell? ⟨pl, 0, none⟩ = some (.bool c0) ∧ W.cell? ⟨pl, 1, none⟩ = some (.int .i64 n0) ∧ W.cell? ⟨pl, 4, none⟩ = some (.bool jm) ∧ W.cell? ⟨rb, 0, none⟩ = some (cv ⟨rb, 0, none⟩ W) ∧ W.cell? ⟨rb, 1, none⟩ = some (cv ⟨rb, 1, none⟩ W) ∧ W.cell? ⟨rb, 2, none⟩ = some (cv ⟨rb, 2, none⟩ W) ∧ W.cell? ⟨rb, 3, none⟩ = some (cv ⟨rb, 3, none⟩ W) ∧ W.frozen? ⟨rb, 0, none⟩ = false ∧ W.frozen? ⟨rb, 1, none⟩ = false ∧ W.frozen? ⟨rb, 2, none⟩ = false ∧ W.frozen? ⟨rb, 3, none⟩ = false) :
    Below w.heap.size w ((((W.setCell ⟨rb, 0, none⟩ v0).setCell ⟨rb, 1, none⟩ v1).setCell ⟨rb, 2, none⟩ v2).setCell ⟨rb, 3, none⟩ v3) ∧ ((((W.setCell ⟨rb, 0, none⟩ v0).setCell ⟨rb, 1, none⟩ v1).setCell ⟨rb, 2, none⟩ v2).setCell ⟨rb, 3, none⟩ v3).cell? ⟨rt, 0, none⟩ = some (.slice (some ⟨b, off, none⟩) n c) ∧ ((((W.setCell ⟨rb, 0, none⟩ v0).setCell ⟨rb, 1, none⟩ v1).setCell ⟨rb, 2, none⟩ v2).setCell ⟨rb, 3, none⟩ v3).cell? ⟨b, off + k * 3, none⟩ = some (.slice PA tl pc) ∧ ((((W.setCell ⟨rb, 0, none⟩ v0).setCell ⟨rb, 1, none⟩ v1).setCell ⟨rb, 2, none⟩ v2).setCell ⟨rb, 3, none⟩ v3).cell? ⟨pl, 0, none⟩ = some (.bool c0) ∧ ((((W.setCell ⟨rb, 0, none⟩ v0).setCell ⟨rb, 1, none⟩ v1).setCell ⟨rb, 2, none⟩ v2).setCell ⟨rb, 3, none⟩ v3).cell? ⟨pl, 1, none⟩ = some (.int .i64 n0) ∧ ((((W.setCell ⟨rb, 0, none⟩ v0).setCell ⟨rb, 1, none⟩ v1).setCell ⟨rb, 2, none⟩ v2).setCell ⟨rb, 3, none⟩ v3).cell? ⟨pl, 4, none⟩ = some (.bool jm) ∧ ((((W.setCell ⟨rb, 0, none⟩ v0).setCell ⟨rb, 1, none⟩ v1).setCell ⟨rb, 2, none⟩ v2).setCell ⟨rb, 3, none⟩ v3).cell? ⟨rb, 0, none⟩ = some (cv ⟨rb, 0, none⟩ ((((W.setCell ⟨rb, 0, none⟩ v0).setCell ⟨rb, 1, none⟩ v1).setCell ⟨rb, 2, none⟩ v2).setCell ⟨rb, 3, none⟩ v3)) ∧ ((((W.setCell ⟨rb, 0, none⟩ v0).setCell ⟨rb, 1, none⟩ v1).setCell ⟨rb, 2, none⟩ v2).setCell ⟨rb, 3, none⟩ v3).cell? ⟨rb, 1, none⟩ = some (cv ⟨rb, 1, none⟩ ((((W.setCell ⟨rb, 0, none⟩ v0).setCell ⟨rb, 1, none⟩ v1).setCell ⟨rb, 2, none⟩ v2).setCell ⟨rb, 3, none⟩ v3)) ∧ ((((W.setCell ⟨rb, 0, none⟩ v0).setCell ⟨rb, 1, none⟩ v1).setCell ⟨rb, 2, none⟩ v2).setCell ⟨rb, 3, none⟩ v3).cell? ⟨rb, 2, none⟩ = some (cv ⟨rb, 2, none⟩ ((((W.setCell ⟨rb, 0, none⟩ v0).setCell ⟨rb, 1, none⟩ v1).setCell ⟨rb, 2, none⟩ v2).setCell ⟨rb, 3, none⟩ v3)) ∧ ((((W.setCell ⟨rb, 0, none⟩ v0).setCell ⟨rb, 1, none⟩ v1).setCell ⟨rb, 2, none⟩ v2).setCell ⟨rb, 3, none⟩ v3).cell? ⟨rb, 3, none⟩ = some (cv ⟨rb, 3, none⟩ ((((W.setCell ⟨rb, 0, none⟩ v0).setCell ⟨rb, 1, none⟩ v1).setCell ⟨rb, 2, none⟩ v2).setCell ⟨rb, 3, none⟩ v3)) ∧ ((((W.setCell ⟨rb, 0, none⟩ v0).setCell ⟨rb, 1, none⟩ v1).setCell ⟨rb, 2, none⟩ v2).setCell ⟨rb, 3, none⟩ v3).frozen? ⟨rb, 0, none⟩ = false ∧ ((((W.setCell ⟨rb, 0, none⟩ v0).setCell ⟨rb, 1, none⟩ v1).setCell ⟨rb, 2, none⟩ v2).setCell ⟨rb, 3, none⟩ v3).frozen? ⟨rb, 1, none⟩ = false ∧ ((((W.setCell ⟨rb, 0, none⟩ v0).setCell ⟨rb, 1, none⟩ v1).setCell ⟨rb, 2, none⟩ v2).setCell ⟨rb, 3, none⟩ v3).frozen? ⟨rb, 2, none⟩ = false ∧ ((((W.setCell ⟨rb, 0, none⟩ v0).setCell ⟨rb, 1, none⟩ v1).setCell ⟨rb, 2, none⟩ v2).setCell ⟨rb, 3, none⟩ v3).frozen? ⟨rb, 3, none⟩ = false := by
  obtain ⟨hB, x0, y0, z0, z1, z4, r0, r1, r2, r3, s0, s1, s2, s3⟩ := h
  have e4 : ∀ q v, W.cell? ⟨rb, q, none⟩ = some v → ∃ x, ((((W.setCell ⟨rb, 0, none⟩ v0).setCell ⟨rb, 1, none⟩ v1).setCell ⟨rb, 2, none⟩ v2).setCell ⟨rb, 3, none⟩ v3).cell? ⟨rb, q, none⟩ = some x := fun q v hq => by
    obtain ⟨_, h1⟩ := cv_set (p := ⟨rb, 0, none⟩) (u := v0) hq
    obtain ⟨_, h2⟩ := cv_set (p := ⟨rb, 1, none⟩) (u := v1) h1
    obtain ⟨_, h3⟩ := cv_set (p := ⟨rb, 2, none⟩) (u := v2) h2
    exact cv_set (p := ⟨rb, 3, none⟩) (u := v3) h3
  have ks : ∀ (a : Addr) v, a.block ≠ rb → W.cell? a = some v → ((((W.setCell ⟨rb, 0, none⟩ v0).setCell ⟨rb, 1, none⟩ v1).setCell ⟨rb, 2, none⟩ v2).setCell ⟨rb, 3, none⟩ v3).cell? a = some v := fun a v hne h => keep_set hne (keep_set hne (keep_set hne (keep_set hne h)))
  have fz : ∀ (a : Addr), W.frozen? a = false → ((((W.setCell ⟨rb, 0, none⟩ v0).setCell ⟨rb, 1, none⟩ v1).setCell ⟨rb, 2, none⟩ v2).setCell ⟨rb, 3, none⟩ v3).frozen? a = false := fun a h => by rw [World.frozen?_setCell, World.frozen?_setCell, World.frozen?_setCell, World.frozen?_setCell]; exact h
  refine ⟨(((hB.setCell (p := ⟨rb, 0, none⟩) h4 _).setCell (p := ⟨rb, 1, none⟩) h4 _).setCell (p := ⟨rb, 2, none⟩) h4 _).setCell (p := ⟨rb, 3, none⟩) h4 _, ks ⟨_, _, _⟩ _ h1 x0, ks ⟨_, _, _⟩ _ h2 y0, ks ⟨_, _, _⟩ _ h3 z0, ks ⟨_, _, _⟩ _ h3 z1, ks ⟨_, _, _⟩ _ h3 z4, ?_, ?_, ?_, ?_, fz _ s0, fz _ s1, fz _ s2, fz _ s3⟩
  · obtain ⟨x, hx⟩ := e4 0 _ r0; exact cv_of hx
  · obtain ⟨x, hx⟩ := e4 1 _ r1; exact cv_of hx
  · obtain ⟨x, hx⟩ := e4 2 _ r2; exact cv_of hx
  · obtain ⟨x, hx⟩ := e4 3 _ r3; exact cv_of hx
theorem SI_next {w W W' : World} {rt pl b off k n c tl pc rb : Nat} {PA : Option Addr} {c0 jm : Bool} {n0 : Int} (hB : Below W.heap.size W W') (h : Below w.heap.size w W ∧ W.cell? ⟨rt, 0, none⟩ = some (.slice (some ⟨b, off, none⟩) n c) ∧ W.cell? ⟨b, off + k * 3, none⟩ = some (.slice PA tl pc) ∧ W.cell? ⟨pl, 0, none⟩ = some (.bool c0) ∧ W.cell? ⟨pl, 1, none⟩ = some (.int .i64 n0) ∧ W.cell? ⟨pl, 4, none⟩ = some (.bool jm) ∧ W.cell? ⟨rb, 0, none⟩ = some (cv ⟨rb, 0, none⟩ W) ∧ W.cell? ⟨rb, 1, none⟩ = some (cv ⟨rb, 1, none⟩ W) ∧ W.cell? ⟨rb, 2, none⟩ = some (cv ⟨rb, 2, none⟩ W) ∧ W.cell? ⟨rb, 3, none⟩ = some (cv ⟨rb, 3, none⟩ W) ∧ W.frozen? ⟨rb, 0, none⟩ = false ∧ W.frozen? ⟨rb, 1, none⟩ = false ∧ W.frozen? ⟨rb, 2, none⟩ = false ∧ W.frozen? ⟨rb, 3, none⟩ = false) : Below w.heap.size w W' ∧ W'.cell? ⟨rt, 0, none⟩ = some (.slice (some ⟨b, off, none⟩) n c) ∧ W'.cell? ⟨b, off + k * 3, none⟩ = some (.slice PA tl pc) ∧ W'.cell? ⟨pl, 0, none⟩ = some (.bool c0) ∧ W'.cell? ⟨pl, 1, none⟩ = some (.int .i64 n0) ∧ W'.cell? ⟨pl, 4, none⟩ = some (.bool jm) ∧ W'.cell? ⟨rb, 0, none⟩ = some (cv ⟨rb, 0, none⟩ W') ∧ W'.cell? ⟨rb, 1, none⟩ = some (cv ⟨rb, 1, none⟩ W') ∧ W'.cell? ⟨rb, 2, none⟩ = some (cv ⟨rb, 2, none⟩ W') ∧ W'.cell? ⟨rb, 3, none⟩ = some (cv ⟨rb, 3, none⟩ W') ∧ W'.frozen? ⟨rb, 0, none⟩ = false ∧ W'.frozen? ⟨rb, 1, none⟩ = false ∧ W'.frozen? ⟨rb, 2, none⟩ = false ∧ W'.frozen? ⟨rb, 3, none⟩ = false := by
  obtain ⟨h0, x0, y0, z0, z1, z4, r0, r1, r2, r3, s0, s1, s2, s3⟩ := h
  exact ⟨h0.trans (hB.mono h0.size), keep_cell hB x0, keep_cell hB y0, keep_cell hB z0, keep_cell hB z1, keep_cell hB z4, cv_of (keep_cell hB r0), cv_of (keep_cell hB r1), cv_of (keep_cell hB r2), cv_of (keep_cell hB r3), keep_frozen hB r0 s0, keep_frozen hB r1 s1, keep_frozen hB r2 s2, keep_frozen hB r3 s3⟩
theorem own_set {W : World} {base : Nat} {e : TypeId} {size : Nat} {v u : Value} {n b j : Nat} {xs : List Value} (h : W.ownsRow base e size v n xs) (hb : b < base) : (W.setCell ⟨b, j, none⟩ u).ownsRow base e size v n xs := by
  refine ⟨h.1, ?_⟩
  rcases h.2 with hn | ⟨g, cap, cur, hv, hb2, hg, rest⟩
  · exact .inl hn
  · exact .inr ⟨g, cap, cur, hv, hb2, (Below.heap_setCell _ _ _ _ (by simp; omega)).trans hg, rest⟩
theorem inner_fin {w W : World} (a : Ar.Are) (t : Ar.Ty) {ao : Option Addr} {cap base : Nat} (h5 : t.params.length ≤ 1000000) (hB : Below w.heap.size w W) (HO : W.ownsRow base 53 3 (.slice ao t.params.length cap) t.params.length (t.params.flatMap aloneCells)) (hb : w.heap.size + 1 < base) :
    InnerPost w (Ar.innerOf a t) 0 (.returned (.tuple #[.agg #[.slice ao t.params.length cap, .bool t.result.cell, .int .i64 t.result.n, .bool (a.jumps || decide (0 < t.params.length))], .int .i64 0])) ((((W.setCell ⟨w.heap.size + 1, 0, none⟩ (.slice ao t.params.length cap)).setCell ⟨w.heap.size + 1, 1, none⟩ (.bool t.result.cell)).setCell ⟨w.heap.size + 1, 2, none⟩ (.int .i64 t.result.n)).setCell ⟨w.heap.size + 1, 3, none⟩ (.bool (a.jumps || decide (0 < t.params.length)))) := by
  have h4 : w.heap.size ≤ w.heap.size + 1 := by omega
  have hO := own_set (j := 3) (u := .bool (a.jumps || decide (0 < t.params.length))) (own_set (j := 2) (u := .int .i64 t.result.n) (own_set (j := 1) (u := .bool t.result.cell) (own_set (j := 0) (u := .slice ao t.params.length cap) HO hb) hb) hb) hb
  have hBB := (((hB.setCell (p := ⟨w.heap.size + 1, 0, none⟩) h4 (.slice ao t.params.length cap)).setCell (p := ⟨w.heap.size + 1, 1, none⟩) h4 (.bool t.result.cell)).setCell (p := ⟨w.heap.size + 1, 2, none⟩) h4 (.int .i64 t.result.n)).setCell (p := ⟨w.heap.size + 1, 3, none⟩) h4 (.bool (a.jumps || decide (0 < t.params.length)))
  generalize (((W.setCell ⟨w.heap.size + 1, 0, none⟩ (.slice ao t.params.length cap)).setCell ⟨w.heap.size + 1, 1, none⟩ (.bool t.result.cell)).setCell ⟨w.heap.size + 1, 2, none⟩ (.int .i64 t.result.n)).setCell ⟨w.heap.size + 1, 3, none⟩ (.bool (a.jumps || decide (0 < t.params.length))) = V at *
  refine ⟨ao, cap, fun _ => (none, 0), ?_, ⟨by simp [Ar.innerOf]; exact h5, fun x hx => ?_, tys_alone t.params hO⟩, hBB⟩
  · unfold arV Ar.innerOf
    rw [List.length_map]; rfl
  · obtain ⟨b, _, rfl⟩ := List.mem_map.1 hx
    exact Nat.zero_le _
theorem SI_below {w W : World} {p : Prop} (h : Below w.heap.size w W ∧ p) : Below w.heap.size w W := h.1

set_option maxRecDepth 100000 in
set_option maxHeartbeats 4000000 in
theorem inner_any (a : Ar.Are) (A : Option Addr) (c : Nat) (P : Nat → Option Addr × Nat) (id : Int) (w : World) (hA : ArM w A P a) :
    Calls Tryz.prog 17 #[arV A c a, .int .i64 id] w (InnerPost w (Ar.innerRes a id) (Ar.innerErr a id)) := by
  have hB0 := below_two (w := w) (.cells #[.slice A a.ids.length c, .bool a.root.cell, .int .i64 a.root.n, .bool a.jumps] 27 (0, 0)) (.cells #[.slice none 0 0, .bool false, .int .i64 0, .bool false] 27 (0, 0))
  have h20 := Lib.hid (two_new2 w (.cells #[.slice A a.ids.length c, .bool a.root.cell, .int .i64 a.root.n, .bool a.jumps] 27 (0, 0)) (.cells #[.slice none 0 0, .bool false, .int .i64 0, .bool false] 27 (0, 0)))
  have HR := Lib.hid (rightOf_any a A c P _ (hA.below hB0))
  have hav : arV A c a = .agg #[.slice A a.ids.length c, .bool a.root.cell, .int .i64 a.root.n, .bool a.jumps] := rfl
  by_cases h0 : Ar.checkOf a = 0
  · have hr := Ar.right_of_check h0
    obtain ⟨hl1, hl2⟩ := arM_of_right hr
    have hx : rtRes A c a = .agg #[.slice A a.ids.length c, .bool a.root.cell, .int .i64 a.root.n, .bool a.jumps] := by unfold rtRes; rw [if_pos h0]; rfl
    rw [hx, h0] at HR
    have HAT := Lib.hid (fun W (hB : Below w.heap.size w W) => at_any a A c P id 0 W (hA.below hB) hl1 hl2)
    have hfe : Ar.innerErr a id = (match Ar.atOf a id 0 with | some p => if Ar.isId p = true then 0 else 7 | none => 7) := by unfold Ar.innerErr; rw [if_pos h0]
    have hir : Ar.innerRes a id = if Ar.innerErr a id = 0 then (match a.ids[(id - 1).toNat]? with | some t => Ar.innerOf a t | none => Ar.noAre) else Ar.noAre := rfl
    have HT := Lib.hid (fun W (hB : Below w.heap.size w W) => (hA.below hB).tys)
    rw [hav] at HR HAT ⊢
    clear hx h0 hA hr hav
    cases hat : Ar.atOf a id 0 with
    | none =>
      rw [hat] at hfe HAT
      simp only at hfe
      rw [hfe] at hir ⊢
      rw [hir]
      simp only [if_neg (show ¬ (7 : Nat) = 0 by decide)]
      clear hat hfe hir
      unfold plRes plV plZ at HAT
      go_enter Tryz.func17, Tryz.ntmps17
      go_wp2_with (first
        | (go_at_call 45; refine (HAT.out _ hBw3).mono ?_; rintro e w4 ⟨rfl, hB4⟩; have hBw4 := hBw3.trans (hB4.mono hBw3.size); have hBw5 := hBw4.alloc hBw4.size (.cells #[.bool false, .int .i64 0, .int .i64 0, .int .i64 0, .bool false] 68 (0, 0)); have j2 := Lib.hid ((Below.heap_alloc w4 (.cells #[.bool false, .int .i64 0, .int .i64 0, .int .i64 0, .bool false] 68 (0, 0)) _ (Nat.lt_of_lt_of_le (lt_of_heap i2.out) hB4.size)).trans ((hB4.block _ (lt_of_heap i2.out)).trans i2.out)); have j9 := Lib.hid (World.alloc_heap_new w4 (.cells #[.bool false, .int .i64 0, .int .i64 0, .int .i64 0, .bool false] 68 (0, 0))); obtain ⟨r0, r1, r2, r3, s0, s1, s2, s3⟩ := cells4 j2.out)
        | (go_at_call 44; refine HR.out.mono ?_; rintro e w2 ⟨rfl, hB2⟩; have hBw2 := hB0.trans (hB2.mono hB0.size); have hBw3 := hBw2.alloc hBw2.size (.cells #[.slice A a.ids.length c, .bool a.root.cell, .int .i64 a.root.n, .bool a.jumps] 66 (0, 0)); have i2 := Lib.hid ((Below.heap_alloc w2 (.cells #[.slice A a.ids.length c, .bool a.root.cell, .int .i64 a.root.n, .bool a.jumps] 66 (0, 0)) _ (Nat.lt_of_lt_of_le (lt_of_heap h20.out) hB2.size)).trans ((hB2.block _ (lt_of_heap h20.out)).trans h20.out))))
      refine bodyPost_ret (v := .tuple #[.agg #[.slice none 0 0, .bool false, .int .i64 0, .bool false], .int .i64 7]) (by simp [results, Tryz.results17, go_sem, World.cell?_setCell_same', r0, r1, r2, r3]) rfl ⟨none, 0, fun _ => (none, 0), rfl, noAre_m _, ?_⟩
      iterate 4 (refine Below.setCell ?_ (by simp) _)
      exact hBw5
    | some p =>
      rw [hat] at hfe HAT
      simp only at hfe
      have HI := Lib.hid (fun W => isIdentifier_any p W)
      unfold plV at HI
      have hp : plRes (some p) = .agg #[.bool p.base.cell, .int .i64 p.base.n, .int .i64 p.id, .int .i64 p.arg, .bool p.jumps] := rfl
      rw [hp] at HAT
      cases hi : Ar.isId p
      · rw [hi] at hfe HI
        rw [hfe] at hir ⊢
        rw [hir]
        simp only [if_neg (show ¬ (7 : Nat) = 0 by decide), if_neg (show ¬ (false = true) by decide)]
        clear hat hi hp hfe hir
        go_enter Tryz.func17, Tryz.ntmps17
        go_wp2_with (first
          | (go_at_call 34; refine (HI.out _).mono ?_; rintro e w6 ⟨rfl, hB6⟩; have hBw6 := hBw5.trans (hB6.mono hBw5.size); obtain ⟨r0, r1, r2, r3, s0, s1, s2, s3⟩ := cells4 ((hB6.block _ (lt_of_heap j2.out)).trans j2.out))
          | (go_at_call 45; refine (HAT.out _ hBw3).mono ?_; rintro e w4 ⟨rfl, hB4⟩; have hBw4 := hBw3.trans (hB4.mono hBw3.size); have hBw5 := hBw4.alloc hBw4.size (.cells #[.bool p.base.cell, .int .i64 p.base.n, .int .i64 p.id, .int .i64 p.arg, .bool p.jumps] 68 (0, 0)); have j2 := Lib.hid ((Below.heap_alloc w4 (.cells #[.bool p.base.cell, .int .i64 p.base.n, .int .i64 p.id, .int .i64 p.arg, .bool p.jumps] 68 (0, 0)) _ (Nat.lt_of_lt_of_le (lt_of_heap i2.out) hB4.size)).trans ((hB4.block _ (lt_of_heap i2.out)).trans i2.out)); have j9 := Lib.hid (World.alloc_heap_new w4 (.cells #[.bool p.base.cell, .int .i64 p.base.n, .int .i64 p.id, .int .i64 p.arg, .bool p.jumps] 68 (0, 0))))
          | (go_at_call 44; refine HR.out.mono ?_; rintro e w2 ⟨rfl, hB2⟩; have hBw2 := hB0.trans (hB2.mono hB0.size); have hBw3 := hBw2.alloc hBw2.size (.cells #[.slice A a.ids.length c, .bool a.root.cell, .int .i64 a.root.n, .bool a.jumps] 66 (0, 0)); have i2 := Lib.hid ((Below.heap_alloc w2 (.cells #[.slice A a.ids.length c, .bool a.root.cell, .int .i64 a.root.n, .bool a.jumps] 66 (0, 0)) _ (Nat.lt_of_lt_of_le (lt_of_heap h20.out) hB2.size)).trans ((hB2.block _ (lt_of_heap h20.out)).trans h20.out))))
        refine bodyPost_ret (v := .tuple #[.agg #[.slice none 0 0, .bool false, .int .i64 0, .bool false], .int .i64 7]) (by simp [results, Tryz.results17, go_sem, World.cell?_setCell_same', r0, r1, r2, r3]) rfl ⟨none, 0, fun _ => (none, 0), rfl, noAre_m _, ?_⟩
        iterate 4 (refine Below.setCell ?_ (by simp) _)
        exact hBw6
      · obtain ⟨k, t, hk, hid, hpt⟩ := Ar.inner_some hat hi
        rw [hi] at hfe HI
        rw [hfe] at hir ⊢
        have hkk : (id - 1).toNat = k := by omega
        rw [hkk, hk] at hir
        simp only [if_true] at hir
        rw [hir]
        have hlt : k < a.ids.length := (List.getElem?_eq_some_iff.1 hk).1
        have ht5 : t.params.length ≤ 1000000 := by have := hl2 t (List.mem_of_getElem? hk); omega
        have HK := Lib.hid hk
        have HE := Lib.hid (fun PA pc W (hT : Bas W W.heap.size PA t.params) => each_alone t.params PA pc W hT ht5)
        subst hpt
        subst hid
        clear hat hi hp hfe hir hkk hk
        go_enter Tryz.func17, Tryz.ntmps17
        go_wp2_with (first
          | (go_at_call 34; refine (HI.out _).mono ?_; rintro e w6 ⟨rfl, hB6⟩; have hBw6 := hBw5.trans (hB6.mono hBw5.size); have k9 := Lib.hid ((hB6.block _ (lt_of_heap j9.out)).trans j9.out); have k7 := Lib.hid ((hB6.block _ (lt_of_heap j7.out)).trans j7.out); have k2 := Lib.hid ((hB6.block _ (lt_of_heap j2.out)).trans j2.out))
          | (go_at_call 45; refine (HAT.out _ hBw3).mono ?_; rintro e w4 ⟨rfl, hB4⟩; have hBw4 := hBw3.trans (hB4.mono hBw3.size); have hBw5 := hBw4.alloc hBw4.size (.cells #[.bool t.result.cell, .int .i64 t.result.n, .int .i64 ((k : Int) + 1), .int .i64 0, .bool (a.jumps || decide (0 < t.params.length))] 68 (0, 0)); have j9 := Lib.hid (World.alloc_heap_new w4 (.cells #[.bool t.result.cell, .int .i64 t.result.n, .int .i64 ((k : Int) + 1), .int .i64 0, .bool (a.jumps || decide (0 < t.params.length))] 68 (0, 0))); have j7 := Lib.hid ((Below.heap_alloc w4 (.cells #[.bool t.result.cell, .int .i64 t.result.n, .int .i64 ((k : Int) + 1), .int .i64 0, .bool (a.jumps || decide (0 < t.params.length))] 68 (0, 0)) _ (Nat.lt_of_lt_of_le (lt_of_heap i7.out) hB4.size)).trans ((hB4.block _ (lt_of_heap i7.out)).trans i7.out)); have j2 := Lib.hid ((Below.heap_alloc w4 (.cells #[.bool t.result.cell, .int .i64 t.result.n, .int .i64 ((k : Int) + 1), .int .i64 0, .bool (a.jumps || decide (0 < t.params.length))] 68 (0, 0)) _ (Nat.lt_of_lt_of_le (lt_of_heap i2.out) hB4.size)).trans ((hB4.block _ (lt_of_heap i2.out)).trans i2.out)))
          | (go_at_call 44; refine HR.out.mono ?_; rintro e w2 ⟨rfl, hB2⟩; have hBw2 := hB0.trans (hB2.mono hB0.size); have hBw3 := hBw2.alloc hBw2.size (.cells #[.slice A a.ids.length c, .bool a.root.cell, .int .i64 a.root.n, .bool a.jumps] 66 (0, 0)); have i7 := Lib.hid (World.alloc_heap_new w2 (.cells #[.slice A a.ids.length c, .bool a.root.cell, .int .i64 a.root.n, .bool a.jumps] 66 (0, 0))); have i2 := Lib.hid ((Below.heap_alloc w2 (.cells #[.slice A a.ids.length c, .bool a.root.cell, .int .i64 a.root.n, .bool a.jumps] 66 (0, 0)) _ (Nat.lt_of_lt_of_le (lt_of_heap h20.out) hB2.size)).trans ((hB2.block _ (lt_of_heap h20.out)).trans h20.out))))
        obtain ⟨b, off, hA, hbB, hc⟩ := (HT.out w (Below.refl _ _)) (by intro e; rw [e] at hlt; simp at hlt)
        obtain ⟨y0', -, -, yb⟩ := hc k t HK.out
        have y0 := (hBw6.cell (p := ⟨b, off + k * 3, none⟩) hbB).trans y0'
        generalize (P k).1 = PA at *
        generalize (P k).2 = pc at *
        subst hA
        have HY := Lib.hid (fun W (h : Below w.heap.size w W) => (yb.below h).mono h.size)
        obtain ⟨x0, -, -, -, -⟩ := cells4 k7.out
        obtain ⟨z0, z1, -, -, z4⟩ := plO_cells (p := ⟨t.result, (k : Int) + 1, 0, a.jumps || decide (0 < t.params.length)⟩) k9.out
        obtain ⟨r0, r1, r2, r3, s0, s1, s2, s3⟩ := cells4 k2.out
        have hkk : (k : Int) + 1 - 1 = (k : Int) := by omega
        have hw1 : IntKind.i64.wrap ((k : Int) + 1 - 1) = (k : Int) := by rw [hkk]; exact IntWalk.i64_in _ (by omega)
        have hw2 : IntKind.i64.wrap (k : Int) = (k : Int) := IntWalk.i64_in _ (by omega)
        have hb0 : (0 : Int) ≤ (k : Int) := by omega
        have hb1 : (k : Int) < (a.ids.length : Int) := by omega
        have hb2 : (k : Int) ≤ (a.ids.length : Int) := by omega
        have hsz2 : w.heap.size + 2 ≤ w2.heap.size := by have := hB2.size; simp at this; omega
        have hsz4 : w2.heap.size + 1 ≤ w4.heap.size := by have := hB4.size; simp at this; omega
        have n1 : w4.heap.size ≠ w.heap.size + 1 := by omega
        have n2 : w2.heap.size ≠ w.heap.size + 1 := by omega
        have n3 : b ≠ w.heap.size + 1 := by omega
        have n4 : w.heap.size ≤ w.heap.size + 1 := by omega
        have hS0 : Below w.heap.size w w6.drew ∧ w6.drew.cell? ⟨w2.heap.size, 0, none⟩ = some (.slice (some ⟨b, off, none⟩) a.ids.length c) ∧ w6.drew.cell? ⟨b, off + k * 3, none⟩ = some (.slice PA t.params.length pc) ∧ w6.drew.cell? ⟨w4.heap.size, 0, none⟩ = some (.bool t.result.cell) ∧ w6.drew.cell? ⟨w4.heap.size, 1, none⟩ = some (.int .i64 t.result.n) ∧ w6.drew.cell? ⟨w4.heap.size, 4, none⟩ = some (.bool (a.jumps || decide (0 < t.params.length))) ∧ w6.drew.cell? ⟨(w.heap.size + 1), 0, none⟩ = some (cv ⟨(w.heap.size + 1), 0, none⟩ w6.drew) ∧ w6.drew.cell? ⟨(w.heap.size + 1), 1, none⟩ = some (cv ⟨(w.heap.size + 1), 1, none⟩ w6.drew) ∧ w6.drew.cell? ⟨(w.heap.size + 1), 2, none⟩ = some (cv ⟨(w.heap.size + 1), 2, none⟩ w6.drew) ∧ w6.drew.cell? ⟨(w.heap.size + 1), 3, none⟩ = some (cv ⟨(w.heap.size + 1), 3, none⟩ w6.drew) ∧ w6.drew.frozen? ⟨(w.heap.size + 1), 0, none⟩ = false ∧ w6.drew.frozen? ⟨(w.heap.size + 1), 1, none⟩ = false ∧ w6.drew.frozen? ⟨(w.heap.size + 1), 2, none⟩ = false ∧ w6.drew.frozen? ⟨(w.heap.size + 1), 3, none⟩ = false := ⟨hBw6.drew, x0, y0, z0, z1, z4, cv_of r0, cv_of r1, cv_of r2, cv_of r3, s0, s1, s2, s3⟩
        have HS0 := Lib.hid hS0
        clear hS0 hc yb hbB HT HR HAT HI hB0 hB2 hB4 hB6 hBw2 hBw3 hBw4 hBw5 y0' x0 y0 z0 z1 z4 r0 r1 r2 r3 s0 s1 s2 s3
        go_region_held3 (fun w' => Below w.heap.size w w' ∧ w'.cell? ⟨w2.heap.size, 0, none⟩ = some (.slice (some ⟨b, off, none⟩) a.ids.length c) ∧ w'.cell? ⟨b, off + k * 3, none⟩ = some (.slice PA t.params.length pc) ∧ w'.cell? ⟨w4.heap.size, 0, none⟩ = some (.bool t.result.cell) ∧ w'.cell? ⟨w4.heap.size, 1, none⟩ = some (.int .i64 t.result.n) ∧ w'.cell? ⟨w4.heap.size, 4, none⟩ = some (.bool (a.jumps || decide (0 < t.params.length))) ∧ w'.cell? ⟨(w.heap.size + 1), 0, none⟩ = some (cv ⟨(w.heap.size + 1), 0, none⟩ w') ∧ w'.cell? ⟨(w.heap.size + 1), 1, none⟩ = some (cv ⟨(w.heap.size + 1), 1, none⟩ w') ∧ w'.cell? ⟨(w.heap.size + 1), 2, none⟩ = some (cv ⟨(w.heap.size + 1), 2, none⟩ w') ∧ w'.cell? ⟨(w.heap.size + 1), 3, none⟩ = some (cv ⟨(w.heap.size + 1), 3, none⟩ w') ∧ w'.frozen? ⟨(w.heap.size + 1), 0, none⟩ = false ∧ w'.frozen? ⟨(w.heap.size + 1), 1, none⟩ = false ∧ w'.frozen? ⟨(w.heap.size + 1), 2, none⟩ = false ∧ w'.frozen? ⟨(w.heap.size + 1), 3, none⟩ = false)
          (first
            | exact HS0.out
            | exact SI_next hB7 (by assumption)
            | exact SI_set n2 n3 n1 n4 (by assumption)
            | go_keep)
          ((go_at_call 47; refine (HE.out PA pc _ (HY.out _ (SI_below (by assumption)))).mono ?_; rintro e w7 ⟨v, rfl, ho, hB7⟩; obtain ⟨ao, cap, hv⟩ := own_form ho; subst hv; have HO := Lib.hid ho; clear ho))
        all_goals go_wp2
        all_goals
          obtain ⟨r0, r1, r2, r3, -⟩ := cells4 ((hB7.block _ (lt_of_heap k2.out)).trans k2.out)
          refine bodyPost_ret (v := .tuple #[.agg #[.slice ao t.params.length cap, .bool t.result.cell, .int .i64 t.result.n, .bool (a.jumps || decide (0 < t.params.length))], .int .i64 0]) (by simp [results, Tryz.results17, go_sem, World.cell?_setCell_same', r0, r1, r2, r3]) rfl ?_
          exact inner_fin a t ht5 (hBw6.drew.trans (hB7.mono hBw6.size)) HO.out (by have := lt_of_heap k2.out; exact this)
  · have hfe : Ar.innerErr a id = Ar.checkOf a := by unfold Ar.innerErr; rw [if_neg h0]
    have hir : Ar.innerRes a id = Ar.noAre := by unfold Ar.innerRes; rw [hfe, if_neg h0]
    rw [hfe, hir]
    obtain ⟨A1, n1, c1, x1, x2, x3, hx⟩ := rtRes_form A c a
    rw [hx, hav] at HR
    rw [hav]
    have hne : ((Ar.checkOf a : Int) != 0) = true := by rw [bne_iff_ne]; omega
    clear hfe hir hx h0 hA hav
    generalize Ar.checkOf a = er at *
    go_enter Tryz.func17, Tryz.ntmps17
    go_wp2_with (go_at_call 44; refine HR.out.mono ?_; rintro e w2 ⟨rfl, hB2⟩; have hBw2 := hB0.trans (hB2.mono hB0.size); have hBw3 := hBw2.alloc hBw2.size (.cells #[.slice A1 n1 c1, .bool x1, .int .i64 x2, .bool x3] 66 (0, 0)); have i2 := Lib.hid ((Below.heap_alloc w2 (.cells #[.slice A1 n1 c1, .bool x1, .int .i64 x2, .bool x3] 66 (0, 0)) _ (Nat.lt_of_lt_of_le (lt_of_heap h20.out) hB2.size)).trans ((hB2.block _ (lt_of_heap h20.out)).trans h20.out)); obtain ⟨r0, r1, r2, r3, s0, s1, s2, s3⟩ := cells4 i2.out)
    refine bodyPost_ret (v := .tuple #[.agg #[.slice none 0 0, .bool false, .int .i64 0, .bool false], .int .i64 (er : Int)]) (by simp [results, Tryz.results17, go_sem, World.cell?_setCell_same', r0, r1, r2, r3]) rfl ⟨none, 0, fun _ => (none, 0), rfl, noAre_m _, ?_⟩
    iterate 4 (refine Below.setCell ?_ (by simp) _)
    exact hBw3
end Go.Proofs.YtepdlghobopdbaaGreatDoor
