/-
  THE ROWS' COMMON PART OF ARENA, 2: a struct of three moves opened.
-/
import Derived.Test.YtbfpgjnagpcbeaaGreatDoorCa
namespace Go.Proofs.YtbfpgjnagpcbeaaGreatDoor
open Go.ChangeShapes Go.WideShapes Go.ChangeAt Go.RowKit Go.Deep

section
variable {H : Type} {enc : TypeId × Value → H}
set_option maxRecDepth 100000 in
/-- One move read off four cells. -/
theorem open_mv {W : World} {base : Nat} {sp : Nat → Bool} {held : Bool} {n : Nat} {cs : List Value} {d : DataW H} {p : List MemPlace} (h : DataW.trod enc Tryz.prog W base sp held n 40 cs = some (d, p)) :
    ∃ a b c e : Int, cs = [.int .i64 a, .int .i64 b, .int .u8 c, .int .i64 e] := by
  obtain ⟨f0, f1, f2, f3, hu, t0, o0, t1, o1, t2, o2, t3, o3⟩ := fieldsMove
  obtain ⟨xs, m, _, hx, hlen, hxl, hff⟩ := DataW.trod_struct hu h
  rw [cellsMove] at hlen
  obtain ⟨v0, v1, v2, v3, rfl⟩ : ∃ v0 v1 v2 v3, cs = [v0, v1, v2, v3] := by
    match cs, hlen with
    | [a, b, c, d], _ => exact ⟨a, b, c, d, rfl⟩
  obtain ⟨y0, y1, y2, y3, rfl⟩ : ∃ y0 y1 y2 y3, xs = [y0, y1, y2, y3] := by
    match xs, hxl with
    | [a, b, c, d], _ => exact ⟨a, b, c, d, rfl⟩
  have g0 := hff 0 f0 rfl
  have g1 := hff 1 f1 rfl
  have g2 := hff 2 f2 rfl
  have g3 := hff 3 f3 rfl
  rw [t0, o0, cellsInt] at g0
  rw [t1, o1, cellsInt] at g1
  rw [t2, o2, cellsU8] at g2
  rw [t3, o3, cellsInt] at g3
  obtain ⟨n0, e0, _, _⟩ := DataW.trod_int Tryz.underlying3 g0
  obtain ⟨n1, e1, _, _⟩ := DataW.trod_int Tryz.underlying3 g1
  obtain ⟨n2, e2, _, _⟩ := DataW.trod_int Tryz.underlying5 g2
  obtain ⟨n3, e3, _, _⟩ := DataW.trod_int Tryz.underlying3 g3
  simp only [List.drop_zero, List.take_succ_cons, List.take_zero, List.drop_succ_cons, List.cons.injEq, and_true] at e0 e1 e2 e3
  subst e0 e1 e2 e3
  exact ⟨n0, n1, n2, n3, rfl⟩

theorem cellsThree : Tryz.prog.cellsOf 72 = 12 := by kernel_rfl
theorem fieldsThree : ∃ f0 f1 f2 : Field, Tryz.prog.underlying 72 = some (.struct #[f0, f1, f2]) ∧ f0.type = 40 ∧ f0.offset = 0 ∧ f1.type = 40 ∧ f1.offset = 4 ∧ f2.type = 40 ∧ f2.offset = 8 :=
  ⟨_, _, _, Tryz.underlying72, rfl, rfl, rfl, rfl, rfl, rfl⟩
set_option maxRecDepth 100000 in
/-- An argument that is three moves. -/
theorem open_thV {W : World} {base : Nat} {sp : Nat → Bool} {held : Bool} {r : Reach} {b0 : Nat} {v : Value} {d : DataW H} {ps : List MemPlace}
    (hval : Value.okWide Tryz.prog W r b0 72 v) (h : DataW.Trod enc Tryz.prog W base sp held 72 v d ps) :
    ∃ a b c e a' b' c' e' p q s t : Int, v = .agg #[.int .i64 a, .int .i64 b, .int .u8 c, .int .i64 e, .int .i64 a', .int .i64 b', .int .u8 c', .int .i64 e', .int .i64 p, .int .i64 q, .int .u8 s, .int .i64 t] := by
  obtain ⟨f0, f1, f2, hu, t0, o0, t1, o1, t2, o2⟩ := fieldsThree
  obtain ⟨cs, rfl, hsz⟩ := okWide_struct hu hval
  obtain ⟨fuel, hf⟩ := h
  obtain ⟨xs, m, _, hx, hlen, hxl, hff⟩ := DataW.trod_struct hu hf
  rw [cellsThree] at hsz
  obtain ⟨l⟩ := cs
  obtain ⟨v0, v1, v2, v3, v4, v5, v6, v7, v8, v9, v10, v11, rfl⟩ : ∃ v0 v1 v2 v3 v4 v5 v6 v7 v8 v9 v10 v11, l = [v0, v1, v2, v3, v4, v5, v6, v7, v8, v9, v10, v11] := by
    match l, hsz with
    | [a, b, c, d, e, f, g, h, i, j, k, m], _ => exact ⟨a, b, c, d, e, f, g, h, i, j, k, m, rfl⟩
  obtain ⟨y0, y1, y2, rfl⟩ : ∃ y0 y1 y2, xs = [y0, y1, y2] := by
    match xs, hxl with
    | [a, b, c], _ => exact ⟨a, b, c, rfl⟩
  have g0 := hff 0 f0 rfl
  have g1 := hff 1 f1 rfl
  have g2 := hff 2 f2 rfl
  rw [t0, o0, cellsMove] at g0
  rw [t1, o1, cellsMove] at g1
  rw [t2, o2, cellsMove] at g2
  obtain ⟨n0, n1, n2, n3, e0⟩ := open_mv g0
  obtain ⟨n4, n5, n6, n7, e1⟩ := open_mv g1
  obtain ⟨n8, n9, n10, n11, e2⟩ := open_mv g2
  simp only [Value.cells, List.drop_zero, List.take_succ_cons, List.take_zero, List.drop_succ_cons, List.cons.injEq, and_true] at e0 e1 e2
  obtain ⟨rfl, rfl, rfl, rfl⟩ := e0
  obtain ⟨rfl, rfl, rfl, rfl⟩ := e1
  obtain ⟨rfl, rfl, rfl, rfl⟩ := e2
  exact ⟨n0, n1, n2, n3, n4, n5, n6, n7, n8, n9, n10, n11, rfl⟩
end
end Go.Proofs.YtbfpgjnagpcbeaaGreatDoor
