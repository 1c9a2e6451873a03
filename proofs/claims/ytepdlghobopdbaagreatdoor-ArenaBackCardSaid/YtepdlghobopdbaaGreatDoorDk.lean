/-
  THE ROWS' COMMON PART OF ARENA, 3: arguments that are arenas, opened.
-/
import Derived.Test.YtepdlghobopdbaaGreatDoorCa
import Derived.Test.YtepdlghobopdbaaGreatDoorDc
import Derived.Lib.SmallJoins
namespace Go.Proofs.YtepdlghobopdbaaGreatDoor
open Go.ChangeShapes Go.WideShapes Go.ChangeAt Go.RowKit Go.Deep

/-- A nil slice has no room. -/
def NilB {α : Type} (A : Option Addr) (c : Nat) (l : List α) : Prop := A = none → c = 0 ∧ l = []
/-- What an argument that is an arena is. -/
structure AreM (W : World) (A : Option Addr) (c : Nat) (P : Nat → Option Addr × Nat) (a : Ar.Are) : Prop where
  tys : Tys W W.heap.size A P a.ids
  len : a.ids.length ≤ maxLen
  par : ∀ t ∈ a.ids, t.params.length ≤ maxLen
  nil : NilB A c a.ids
  nils : ∀ i t, a.ids[i]? = some t → NilB (P i).1 (P i).2 t.params

section
variable {H : Type} {enc : TypeId × Value → H} {W : World} {base : Nat} {sp : Nat → Bool} {held : Bool}
theorem cellsBase : Tryz.prog.cellsOf 25 = 2 := by kernel_rfl
theorem cellsType : Tryz.prog.cellsOf 53 = 3 := by kernel_rfl
theorem cellsArena : Tryz.prog.cellsOf 27 = 4 := by kernel_rfl
theorem cellsBool : Tryz.prog.cellsOf 4 = 1 := by kernel_rfl
theorem cellsBases : Tryz.prog.cellsOf 51 = 1 := by kernel_rfl
theorem cellsTypes : Tryz.prog.cellsOf 23 = 1 := by kernel_rfl
theorem fieldsBase : ∃ f0 f1 : Field, Tryz.prog.underlying 25 = some (.struct #[f0, f1]) ∧ f0.type = 4 ∧ f0.offset = 0 ∧ f1.type = 3 ∧ f1.offset = 1 :=
  ⟨_, _, Tryz.underlying25, rfl, rfl, rfl, rfl⟩
theorem fieldsType : ∃ f0 f1 : Field, Tryz.prog.underlying 53 = some (.struct #[f0, f1]) ∧ f0.type = 51 ∧ f0.offset = 0 ∧ f1.type = 25 ∧ f1.offset = 1 :=
  ⟨_, _, Tryz.underlying53, rfl, rfl, rfl, rfl⟩
theorem fieldsArena : ∃ f0 f1 f2 : Field, Tryz.prog.underlying 27 = some (.struct #[f0, f1, f2]) ∧ f0.type = 23 ∧ f0.offset = 0 ∧ f1.type = 25 ∧ f1.offset = 1 ∧ f2.type = 4 ∧ f2.offset = 3 :=
  ⟨_, _, _, Tryz.underlying27, rfl, rfl, rfl, rfl, rfl, rfl⟩

set_option maxRecDepth 100000 in
theorem open_bs {n : Nat} {cs : List Value} {x : DataW H × List MemPlace} (h : DataW.trod enc Tryz.prog W base sp held n 25 cs = some x) : ∃ b : Ar.Bs, cs = [.bool b.cell, .int .i64 b.n] := by
  obtain ⟨f0, f1, hu, t0, o0, t1, o1⟩ := fieldsBase
  obtain ⟨y0, y1, m, _, hlen, g0, g1⟩ := trod_struct2 hu h
  rw [cellsBase] at hlen
  obtain ⟨v0, v1, rfl⟩ : ∃ v0 v1, cs = [v0, v1] := by
    match cs, hlen with
    | [a, b], _ => exact ⟨a, b, rfl⟩
  rw [t0, o0, cellsBool] at g0
  rw [t1, o1, cellsInt] at g1
  obtain ⟨b0, e0, _⟩ := DataW.trod_bool Tryz.underlying4 g0
  obtain ⟨n1, e1, _, _⟩ := DataW.trod_int Tryz.underlying3 g1
  simp only [List.drop_zero, List.take_succ_cons, List.take_zero, List.drop_succ_cons, List.cons.injEq, and_true] at e0 e1
  subst e0 e1
  exact ⟨⟨b0, n1⟩, rfl⟩

theorem addr_add2 {bb bo i j : Nat} : ((⟨bb, bo, none⟩ : Addr).add i).add j = ⟨bb, bo + i + j, none⟩ := by
  unfold Addr.add; (repeat' split) <;> simp_all

set_option maxRecDepth 100000 in
theorem open_bas {n : Nat} {cs : List Value} {x : DataW H × List MemPlace} (h : DataW.trod enc Tryz.prog W base sp held n 51 cs = some x) :
    ∃ (A : Option Addr) (c : Nat) (l : List Ar.Bs), cs = [.slice A l.length c] ∧ Bas W W.heap.size A l ∧ l.length ≤ maxLen ∧ NilB A c l := by
  rcases open_slice Tryz.underlying51 h with ⟨rfl, _⟩ | ⟨b, len, cap, m, k, D, Pl, rfl, hb, hl, hm, hmm, hx, hi⟩
  · exact ⟨none, 0, [], rfl, fun h => absurd rfl h, Nat.zero_le _, fun _ => ⟨rfl, rfl⟩⟩
  · rw [cellsBase] at hi
    have hml : len ≤ m := by rw [hmm]; split <;> omega
    have hE : ∀ i, i < m → ∃ x : Ar.Bs, W.cells? base (b.add (i * 2)) 2 = some [.bool x.cell, .int .i64 x.n] := fun i him => by
      obtain ⟨cs', hc, ht⟩ := hi i him
      obtain ⟨x, rfl⟩ := open_bs ht
      exact ⟨x, hc⟩
    obtain ⟨f, hf2⟩ : ∃ f : Nat → Ar.Bs, ∀ i, i < m → W.cells? base (b.add (i * 2)) 2 = some [.bool (f i).cell, .int .i64 (f i).n] :=
      ⟨fun i => if h : i < m then Classical.choose (hE i h) else ⟨false, 0⟩, fun i h => by simp only [dif_pos h]; exact Classical.choose_spec (hE i h)⟩
    refine ⟨some b, cap, (List.range len).map f, by rw [List.length_map, List.length_range], fun hne => ?_, by rw [List.length_map, List.length_range]; exact Nat.le_trans hl hm, fun h => by cases h⟩
    have hl0 : 0 < len := by
      rcases Nat.eq_zero_or_pos len with e | e
      · subst e; exact absurd rfl hne
      · exact e
    have hcell : ∀ i, i < len → ∀ j, j < 2 → W.cell? ((b.add (i * 2)).add j) = [Value.bool (f i).cell, .int .i64 (f i).n][j]? := fun i hil j hj => (World.cells?_some (hf2 i (by omega))).2.2 j hj
    have h00 : W.cell? b = some (.bool (f 0).cell) := hcell 0 hl0 0 (by omega)
    have hspot := World.cell?_spot h00
    have hbl := block_of_cell h00
    obtain ⟨bb, bo, bs⟩ := b
    simp only at hspot
    subst hspot
    refine ⟨bb, bo, rfl, hbl, fun i x hx => ?_⟩
    rw [List.getElem?_map] at hx
    obtain ⟨i', hi', rfl⟩ := Option.map_eq_some_iff.1 hx
    have hil : i < len := by
      have := (List.getElem?_eq_some_iff.1 hi').1
      simpa using this
    obtain rfl : i = i' := by
      rw [List.getElem?_range hil] at hi'
      exact Option.some.inj hi'
    have k0 := hcell i hil 0 (by omega)
    have k1 := hcell i hil 1 (by omega)
    rw [addr_add2] at k0 k1
    exact ⟨k0, k1⟩

def PtOk (W : World) (x : Pt) : Prop := Bas W W.heap.size x.2.1 x.1.params ∧ x.1.params.length ≤ maxLen ∧ NilB x.2.1 x.2.2 x.1.params
set_option maxRecDepth 100000 in
theorem open_ty {n : Nat} {cs : List Value} {x : DataW H × List MemPlace} (h : DataW.trod enc Tryz.prog W base sp held n 53 cs = some x) : ∃ x : Pt, cs = ptCells x ∧ PtOk W x := by
  obtain ⟨f0, f1, hu, t0, o0, t1, o1⟩ := fieldsType
  obtain ⟨y0, y1, m, _, hlen, g0, g1⟩ := trod_struct2 hu h
  rw [cellsType] at hlen
  obtain ⟨v0, v1, v2, rfl⟩ : ∃ v0 v1 v2, cs = [v0, v1, v2] := by
    match cs, hlen with
    | [a, b, c], _ => exact ⟨a, b, c, rfl⟩
  rw [t0, o0, cellsBases] at g0
  rw [t1, o1, cellsBase] at g1
  obtain ⟨A, c, l, e0, h1, h2, h3⟩ := open_bas g0
  obtain ⟨b, e1⟩ := open_bs g1
  simp only [List.drop_zero, List.take_succ_cons, List.take_zero, List.drop_succ_cons, List.cons.injEq, and_true] at e0 e1
  obtain ⟨rfl, rfl⟩ := e1
  subst e0
  exact ⟨(⟨l, b⟩, (A, c)), rfl, h1, h2, h3⟩

set_option maxRecDepth 100000 in
theorem open_tys {n : Nat} {cs : List Value} {x : DataW H × List MemPlace} (h : DataW.trod enc Tryz.prog W base sp held n 23 cs = some x) :
    ∃ (A : Option Addr) (c : Nat) (l : List Pt), cs = [.slice A l.length c] ∧ NilB A c l ∧ l.length ≤ maxLen ∧ (∀ x ∈ l, PtOk W x) ∧
      (l ≠ [] → ∃ b off, A = some ⟨b, off, none⟩ ∧ b < W.heap.size ∧ ∀ i x, l[i]? = some x → ∀ j v, (ptCells x)[j]? = some v → W.cell? ⟨b, off + i * 3 + j, none⟩ = some v) := by
  rcases open_slice Tryz.underlying23 h with ⟨rfl, _⟩ | ⟨b, len, cap, m, k, D, Pl, rfl, hb, hl, hm, hmm, hx, hi⟩
  · exact ⟨none, 0, [], rfl, fun _ => ⟨rfl, rfl⟩, Nat.zero_le _, (fun _ h => by cases h), fun h => absurd rfl h⟩
  · rw [cellsType] at hi
    have hml : len ≤ m := by rw [hmm]; split <;> omega
    have hE : ∀ i, i < m → ∃ x : Pt, W.cells? base (b.add (i * 3)) 3 = some (ptCells x) ∧ PtOk W x := fun i him => by
      obtain ⟨cs', hc, ht⟩ := hi i him
      obtain ⟨x, rfl, hok⟩ := open_ty ht
      exact ⟨x, hc, hok⟩
    obtain ⟨f, hf2⟩ : ∃ f : Nat → Pt, ∀ i, i < m → W.cells? base (b.add (i * 3)) 3 = some (ptCells (f i)) ∧ PtOk W (f i) :=
      ⟨fun i => if h : i < m then Classical.choose (hE i h) else (⟨[], ⟨false, 0⟩⟩, (none, 0)), fun i h => by simp only [dif_pos h]; exact Classical.choose_spec (hE i h)⟩
    refine ⟨some b, cap, (List.range len).map f, by rw [List.length_map, List.length_range], (fun h => by cases h), by rw [List.length_map, List.length_range]; exact Nat.le_trans hl hm, fun x hx => ?_, fun hne => ?_⟩
    · obtain ⟨i, hi2, rfl⟩ := List.mem_map.1 hx
      exact (hf2 i (Nat.lt_of_lt_of_le (List.mem_range.1 hi2) hml)).2
    have hl0 : 0 < len := by
      rcases Nat.eq_zero_or_pos len with e | e
      · subst e; exact absurd rfl hne
      · exact e
    have hcell : ∀ i, i < len → ∀ j, j < 3 → W.cell? ((b.add (i * 3)).add j) = (ptCells (f i))[j]? := fun i hil j hj => (World.cells?_some (hf2 i (by omega)).1).2.2 j hj
    have h00 : W.cell? b = (ptCells (f 0))[0]? := hcell 0 hl0 0 (by omega)
    have h01 : W.cell? b = some (.slice (f 0).2.1 (f 0).1.params.length (f 0).2.2) := h00
    have hspot := World.cell?_spot h01
    have hbl := block_of_cell h01
    obtain ⟨bb, bo, bs⟩ := b
    simp only at hspot
    subst hspot
    refine ⟨bb, bo, rfl, hbl, fun i x hx j v hv => ?_⟩
    rw [List.getElem?_map] at hx
    obtain ⟨i', hi', rfl⟩ := Option.map_eq_some_iff.1 hx
    have hil : i < len := by
      have := (List.getElem?_eq_some_iff.1 hi').1
      simpa using this
    obtain rfl : i = i' := by
      rw [List.getElem?_range hil] at hi'
      exact Option.some.inj hi'
    have hj : j < 3 := (List.getElem?_eq_some_iff.1 hv).1
    have k0 := hcell i hil j hj
    rw [addr_add2] at k0
    rw [k0]; exact hv

theorem are_of_pts {A : Option Addr} {c : Nat} {l : List Pt} (h1 : NilB A c l) (h2 : l.length ≤ maxLen) (h3 : ∀ x ∈ l, PtOk W x)
    (h4 : l ≠ [] → ∃ b off, A = some ⟨b, off, none⟩ ∧ b < W.heap.size ∧ ∀ i x, l[i]? = some x → ∀ j v, (ptCells x)[j]? = some v → W.cell? ⟨b, off + i * 3 + j, none⟩ = some v) (r : Ar.Bs) (jm : Bool) :
    AreM W A c (ptP l) ⟨l.map Prod.fst, r, jm⟩ := by
  have hg : ∀ i t, (l.map Prod.fst)[i]? = some t → ∃ x : Pt, l[i]? = some x ∧ x.1 = t := fun i t h => by
    rw [List.getElem?_map] at h
    exact Option.map_eq_some_iff.1 h
  refine ⟨fun hne => ?_, by simpa using h2, fun t ht => ?_, fun hn => ?_, fun i t ht => ?_⟩
  · obtain ⟨b, off, hA, hb, hc⟩ := h4 (by intro e; subst e; exact hne rfl)
    refine ⟨b, off, hA, hb, fun i t ht => ?_⟩
    obtain ⟨x, hx, rfl⟩ := hg i t ht
    rw [ptP_get hx]
    have k0 := hc i x hx 0 _ rfl
    have k1 := hc i x hx 1 _ rfl
    have k2 := hc i x hx 2 _ rfl
    exact ⟨k0, k1, k2, (h3 x (List.mem_of_getElem? hx)).1⟩
  · obtain ⟨x, hx, rfl⟩ := List.mem_map.1 ht
    exact (h3 x hx).2.1
  · obtain ⟨e1, rfl⟩ := h1 hn
    exact ⟨e1, rfl⟩
  · obtain ⟨x, hx, rfl⟩ := hg i t ht
    rw [ptP_get hx]
    exact (h3 x (List.mem_of_getElem? hx)).2.2

set_option maxRecDepth 100000 in
/-- An argument that is an arena. -/
theorem open_areV {r : Reach} {b0 : Nat} {v : Value} {d : DataW H} {ps : List MemPlace}
    (hval : Value.okWide Tryz.prog W r b0 27 v) (h : DataW.Trod enc Tryz.prog W base sp held 27 v d ps) :
    ∃ (A : Option Addr) (c : Nat) (P : Nat → Option Addr × Nat) (a : Ar.Are), v = arV A c a ∧ AreM W A c P a := by
  obtain ⟨f0, f1, f2, hu, t0, o0, t1, o1, t2, o2⟩ := fieldsArena
  obtain ⟨cs, rfl, hsz⟩ := okWide_struct hu hval
  obtain ⟨fuel, hf⟩ := h
  obtain ⟨y0, y1, y2, m, _, hlen, g0, g1, g2⟩ := trod_struct3 hu hf
  rw [cellsArena] at hsz
  obtain ⟨l⟩ := cs
  obtain ⟨v0, v1, v2, v3, rfl⟩ : ∃ v0 v1 v2 v3, l = [v0, v1, v2, v3] := by
    match l, hsz with
    | [a, b, c, d], _ => exact ⟨a, b, c, d, rfl⟩
  rw [t0, o0, cellsTypes] at g0
  rw [t1, o1, cellsBase] at g1
  rw [t2, o2, cellsBool] at g2
  obtain ⟨A, c, l, e0, k1, k2, k3, k4⟩ := open_tys g0
  obtain ⟨b, e1⟩ := open_bs g1
  obtain ⟨j, e2, _⟩ := DataW.trod_bool Tryz.underlying4 g2
  simp only [Value.cells, List.drop_zero, List.take_succ_cons, List.take_zero, List.drop_succ_cons, List.cons.injEq, and_true] at e0 e1 e2
  obtain ⟨rfl, rfl⟩ := e1
  subst e0 e2
  exact ⟨A, c, ptP l, ⟨l.map Prod.fst, b, j⟩, by unfold arV; rw [List.length_map], are_of_pts k1 k2 k3 k4 b j⟩
end
end Go.Proofs.YtepdlghobopdbaaGreatDoor

namespace Go.Proofs.YtepdlghobopdbaaGreatDoor
open Go.RowKit
theorem thinL {a : Ar.Are} {A : Option Addr} {c : Nat} {P : Nat → Option Addr × Nat} {W : World} (h : AreM W A c P a) : Calls Tryz.prog 22 #[.agg #[.slice A a.ids.length c, .bool a.root.cell, .int .i64 a.root.n, .bool a.jumps]] W fun e w' => e = .returned (.bool (Ar.thinOf a)) ∧ Below W.heap.size W w' :=
  thin_any a A c P W h.len h.par h.tys
theorem AreM.below {W W' : World} {A : Option Addr} {c : Nat} {P : Nat → Option Addr × Nat} {a : Ar.Are} (h : AreM W A c P a) (hB : Below W.heap.size W W') : AreM W' A c P a := ⟨(h.tys.below hB).mono hB.size, h.len, h.par, h.nil, h.nils⟩
theorem AreM.m {W : World} {A : Option Addr} {c : Nat} {P : Nat → Option Addr × Nat} {a : Ar.Are} (h : AreM W A c P a) (ht : Ar.thinOf a = true) : ArM W A P a := by
  obtain ⟨h1, h2⟩ := Ar.thin_bounds ht
  exact ⟨by omega, fun t ht => by have := h2 t ht; omega, h.tys⟩
theorem copyL {a : Ar.Are} {A : Option Addr} {c : Nat} {P : Nat → Option Addr × Nat} {W : World} (h : AreM W A c P a) (ht : Ar.thinOf a = true) : Calls Tryz.prog 25 #[.agg #[.slice A a.ids.length c, .bool a.root.cell, .int .i64 a.root.n, .bool a.jumps]] W fun e w' => ∃ A' c' P', e = .returned (.agg #[.slice A' a.ids.length c', .bool a.root.cell, .int .i64 a.root.n, .bool a.jumps]) ∧ ArM w' A' P' a ∧ Below W.heap.size W w' :=
  (copy_any a A c P W (h.m ht) (fun i t hi => h.nils i t hi)).mono fun _ _ ⟨A', c', P', h1, h2, h3⟩ => ⟨A', c', P', h1, h2.m, h3⟩
theorem keep_blk {W W' : World} {k : Nat} {o : Obj} (h : Hid (W.heap[k]? = some o)) (hB : Below W.heap.size W W') : Hid (W'.heap[k]? = some o) := (hB.block k (lt_of_heap h.out)).trans h.out
theorem keep_al {W : World} {k : Nat} {o : Obj} (o' : Obj) (h : Hid (W.heap[k]? = some o)) : Hid ((W.alloc o').heap[k]? = some o) := (Below.heap_alloc W o' k (lt_of_heap h.out)).trans h.out
theorem new_blk (W : World) (o : Obj) : Hid ((W.alloc o).heap[W.heap.size]? = some o) := World.alloc_heap_new W o
theorem below_al (W : World) (o : Obj) : Below W.heap.size W (W.alloc o) := (Below.refl _ _).alloc (Nat.le_refl _) _
end Go.Proofs.YtepdlghobopdbaaGreatDoor
