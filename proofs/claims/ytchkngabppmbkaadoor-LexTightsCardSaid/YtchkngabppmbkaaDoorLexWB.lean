/-
  THE ROWS' COMMON PART, 3: slices of tokens opened; splices and spots opened.
-/
import Derived.Test.YtchkngabppmbkaaDoorLexW
import Derived.Test.YtchkngabppmbkaaDoorLexN
namespace Go.Proofs.YtchkngabppmbkaaDoor
open Go.ChangeShapes Go.WideShapes Go.ChangeAt Go.RowKit Go.Deep

section
variable {H : Type} {enc : TypeId × Value → H}
set_option maxRecDepth 100000 in
theorem open_splV {W : World} {base : Nat} {sp : Nat → Bool} {held : Bool} {r : Reach} {b0 : Nat} {v : Value} {d : DataW H} {ps : List MemPlace}
    (hval : Value.okWide Tryd.prog W r b0 56 v) (h : DataW.Trod enc Tryd.prog W base sp held 56 v d ps) (hw : ∀ k ∈ d.weights Tryd.prog 56, k ≤ reachBytes) :
    ∃ x : Lx.Spl, v = .agg #[.int .i64 x.lo, .int .i64 x.hi, .string x.text] ∧ x.text.size ≤ reachBytes := by
  obtain ⟨f0, f1, f2, hu, _⟩ := fieldsSpl
  obtain ⟨cs, rfl, hsz⟩ := okWide_struct hu hval
  obtain ⟨fuel, hf⟩ := h
  obtain ⟨x, hcs, hd, _, _⟩ := open_spl hf
  have hcs' : cs.toList = [.int .i64 x.lo, .int .i64 x.hi, .string x.text] := hcs
  refine ⟨x, ?_, ?_⟩
  · congr 1
    exact Array.toList_inj.1 hcs'
  · subst hd
    exact hw _ (by rw [splWeight]; exact .head _)

theorem cellsSpot : Tryd.prog.cellsOf 32 = 2 := by kernel_rfl
theorem fieldsSpot : ∃ f0 f1 : Field, Tryd.prog.underlying 32 = some (.struct #[f0, f1]) ∧ f0.type = 3 ∧ f0.offset = 0 ∧ f1.type = 3 ∧ f1.offset = 1 :=
  ⟨_, _, Tryd.underlying32, rfl, rfl, rfl, rfl⟩
set_option maxRecDepth 100000 in
theorem open_spotV {W : World} {base : Nat} {sp : Nat → Bool} {held : Bool} {r : Reach} {b0 : Nat} {v : Value} {d : DataW H} {ps : List MemPlace}
    (hval : Value.okWide Tryd.prog W r b0 32 v) (h : DataW.Trod enc Tryd.prog W base sp held 32 v d ps) :
    ∃ a b : Int, v = .agg #[.int .i64 a, .int .i64 b] ∧ True ∧ True := by
  obtain ⟨f0, f1, hu, t0, o0, t1, o1⟩ := fieldsSpot
  obtain ⟨cs, rfl, hsz⟩ := okWide_struct hu hval
  obtain ⟨fuel, hf⟩ := h
  obtain ⟨xs, m, _, hx, hlen, hxl, hff⟩ := DataW.trod_struct hu hf
  rw [cellsSpot] at hsz
  obtain ⟨l⟩ := cs
  obtain ⟨v0, v1, rfl⟩ : ∃ v0 v1, l = [v0, v1] := by
    match l, hsz with
    | [a, b], _ => exact ⟨a, b, rfl⟩
  obtain ⟨y0, y1, rfl⟩ : ∃ y0 y1, xs = [y0, y1] := by
    match xs, hxl with
    | [a, b], _ => exact ⟨a, b, rfl⟩
  have g0 := hff 0 f0 rfl
  have g1 := hff 1 f1 rfl
  rw [t0, o0, cellsInt] at g0
  rw [t1, o1, cellsInt] at g1
  obtain ⟨n0, e0, _, _⟩ := DataW.trod_int Tryd.underlying3 g0
  obtain ⟨n1, e1, _, _⟩ := DataW.trod_int Tryd.underlying3 g1
  simp only [Value.cells, List.drop_zero, List.take_succ_cons, List.take_zero, List.drop_succ_cons, List.cons.injEq, and_true] at e0 e1
  subst e0 e1
  exact ⟨n0, n1, rfl, trivial, trivial⟩

theorem cellsTok : Tryd.prog.cellsOf 63 = 3 := by kernel_rfl
theorem cellsU8 : Tryd.prog.cellsOf 5 = 1 := by kernel_rfl
theorem fieldsTok : ∃ f0 f1 f2 : Field, Tryd.prog.underlying 63 = some (.struct #[f0, f1, f2]) ∧ f0.type = 5 ∧ f0.offset = 0 ∧ f1.type = 9 ∧ f1.offset = 1 ∧ f2.type = 3 ∧ f2.offset = 2 :=
  ⟨_, _, _, Tryd.underlying63, rfl, rfl, rfl, rfl, rfl, rfl⟩
set_option maxRecDepth 100000 in
/-- One token read off three cells. -/
theorem open_tok {W : World} {base : Nat} {sp : Nat → Bool} {held : Bool} {n : Nat} {cs : List Value} {d : DataW H} {p : List MemPlace} (h : DataW.trod enc Tryd.prog W base sp held n 63 cs = some (d, p)) :
    ∃ x : Lx.Tk, cs = [.int .u8 x.kind, .string x.text, .int .i64 x.pos] ∧ d = .agg [.lit (.int .u8 x.kind), .lit (.string x.text.data.toList), .lit (.int .i64 x.pos)] ∧ p = [] ∧ x.text.size ≤ maxLen := by
  obtain ⟨f0, f1, f2, hu, t0, o0, t1, o1, t2, o2⟩ := fieldsTok
  obtain ⟨xs, m, _, hx, hlen, hxl, hf⟩ := DataW.trod_struct hu h
  rw [cellsTok] at hlen
  obtain ⟨v0, v1, v2, rfl⟩ : ∃ v0 v1 v2, cs = [v0, v1, v2] := by
    match cs, hlen with
    | [a, b, c], _ => exact ⟨a, b, c, rfl⟩
  obtain ⟨y0, y1, y2, rfl⟩ : ∃ y0 y1 y2, xs = [y0, y1, y2] := by
    match xs, hxl with
    | [a, b, c], _ => exact ⟨a, b, c, rfl⟩
  have g0 := hf 0 f0 rfl
  have g1 := hf 1 f1 rfl
  have g2 := hf 2 f2 rfl
  rw [t0, o0, cellsU8] at g0
  rw [t1, o1, cellsStr] at g1
  rw [t2, o2, cellsInt] at g2
  obtain ⟨n0, e0, z0, _⟩ := DataW.trod_int Tryd.underlying5 g0
  obtain ⟨s1, e1, z1, hs1⟩ := DataW.trod_string Tryd.underlying9 g1
  obtain ⟨n2, e2, z2, _⟩ := DataW.trod_int Tryd.underlying3 g2
  simp only [List.drop_zero, List.take_succ_cons, List.take_zero, List.drop_succ_cons, List.cons.injEq, and_true] at e0 e1 e2
  subst e0 e1 e2
  subst z0 z1 z2
  simp only [List.map_cons, List.map_nil, List.flatMap_cons, List.flatMap_nil, List.append_nil, Prod.mk.injEq] at hx
  exact ⟨⟨n0, s1, n2⟩, rfl, hx.1, hx.2, hs1⟩

theorem tokWeight (x : Lx.Tk) : DataW.weights (H := H) Tryd.prog 63 (.agg [.lit (.int .u8 x.kind), .lit (.string x.text.data.toList), .lit (.int .i64 x.pos)]) = [x.text.size] := by
  obtain ⟨f0, f1, f2, hu, t0, o0, t1, o1, t2, o2⟩ := fieldsTok
  simp [DataW.weights, hu, DataW.weightsEach]
set_option maxRecDepth 100000 in
/-- An argument that is a slice of tokens. -/
theorem open_toks {W : World} {base : Nat} {sp : Nat → Bool} {held : Bool} {r : Reach} {b0 : Nat} {v : Value} {d : DataW H} {ps : List MemPlace}
    (hval : Value.okWide Tryd.prog W r b0 23 v) (h : DataW.Trod enc Tryd.prog W base sp held 23 v d ps) (hw : ∀ k ∈ d.weights Tryd.prog 23, k ≤ reachBytes) :
    ∃ (A : Option Addr) (c : Nat) (l : List Lx.Tk), v = .slice A l.length c ∧ Tks W W.heap.size A l ∧ (∀ x ∈ l, x.text.size ≤ reachBytes) ∧ l.length * 32 ≤ reachBytes ∧ (A = none → c = 0 ∧ l = []) := by
  obtain ⟨a, len, cap, rfl⟩ := okWide_slice Tryd.underlying23 hval
  obtain ⟨fuel, hf⟩ := h
  rcases open_slice Tryd.underlying23 hf with ⟨hcs, _⟩ | ⟨b, len', cap', m, n, D, Pl, hcs, hb, hl, hm, hmm, hx, hi⟩
  · have : Value.slice a len cap = .slice none 0 0 := by simpa [Value.cells] using hcs
    cases this
    exact ⟨none, 0, [], rfl, fun h => absurd rfl h, by simp, by simp, fun _ => ⟨rfl, rfl⟩⟩
  · have : Value.slice a len cap = .slice (some b) len' cap' := by simpa [Value.cells] using hcs
    cases this
    rw [cellsTok] at hi hx
    have hml : len ≤ m := by rw [hmm]; split <;> omega
    have hE : ∀ i, i < m → ∃ x : Lx.Tk, W.cells? base (b.add (i * 3)) 3 = some [.int .u8 x.kind, .string x.text, .int .i64 x.pos] ∧ D i = .agg [.lit (.int .u8 x.kind), .lit (.string x.text.data.toList), .lit (.int .i64 x.pos)] := fun i him => by
      obtain ⟨cs', hc, ht⟩ := hi i him
      obtain ⟨x, rfl, hd, _, _⟩ := open_tok ht
      exact ⟨x, hc, hd⟩
    have hF : ∃ f : Nat → Lx.Tk, ∀ i, i < m → W.cells? base (b.add (i * 3)) 3 = some [.int .u8 (f i).kind, .string (f i).text, .int .i64 (f i).pos] ∧ D i = .agg [.lit (.int .u8 (f i).kind), .lit (.string (f i).text.data.toList), .lit (.int .i64 (f i).pos)] :=
      ⟨fun i => if h : i < m then Classical.choose (hE i h) else ⟨0, ⟨#[]⟩, 0⟩, fun i h => by simp only [dif_pos h]; exact Classical.choose_spec (hE i h)⟩
    obtain ⟨f, hf2⟩ := hF
    simp only [Prod.mk.injEq] at hx
    obtain ⟨rfl, rfl⟩ := hx
    have hwt : DataW.weights Tryd.prog 23 (.slice ((List.range len).map D) ((List.range (m - len)).map fun j => D (len + j))) = (((List.range len).map D).length + ((List.range (m - len)).map fun j => D (len + j)).length) * Tryd.prog.bytesOf 63 :: (DataW.weightsAll Tryd.prog 63 ((List.range len).map D) ++ DataW.weightsAll Tryd.prog 63 ((List.range (m - len)).map fun j => D (len + j))) := by
      simp only [DataW.weights, Tryd.underlying23]
    rw [hwt] at hw
    have hbytes : Tryd.prog.bytesOf 63 = 32 := by kernel_rfl
    have h0 := hw _ (.head _)
    rw [hbytes, List.length_map, List.length_range, List.length_map, List.length_range] at h0
    refine ⟨some b, cap, (List.range len).map f, by rw [List.length_map, List.length_range], fun hne => ?_, fun x hx => ?_, by rw [List.length_map, List.length_range]; omega, fun h => by cases h⟩
    · have hl0 : 0 < len := by
        rcases Nat.eq_zero_or_pos len with e | e
        · subst e; exact absurd rfl hne
        · exact e
      have hcell : ∀ i, i < len → ∀ j, j < 3 → W.cell? ((b.add (i * 3)).add j) = [Value.int .u8 (f i).kind, .string (f i).text, .int .i64 (f i).pos][j]? := fun i hil j hj => (World.cells?_some (hf2 i (by omega)).1).2.2 j hj
      have h00 : W.cell? b = some (.int .u8 (f 0).kind) := hcell 0 hl0 0 (by omega)
      have hspot := World.cell?_spot h00
      have hbl := block_of_cell h00
      obtain ⟨bb, bo, bs⟩ := b
      simp only at hspot
      subst hspot
      have hadd : ∀ i j : Nat, ((⟨bb, bo, none⟩ : Addr).add (i * 3)).add j = ⟨bb, bo + i * 3 + j, none⟩ := fun i j => by
        unfold Addr.add; (repeat' split) <;> simp_all
      refine ⟨bb, bo, rfl, hbl, fun i x hx => ?_⟩
      rw [List.getElem?_map] at hx
      obtain ⟨i', hi', rfl⟩ := Option.map_eq_some_iff.1 hx
      have hil : i < len := by
        have := (List.getElem?_eq_some_iff.1 hi').1
        simpa using this
      obtain rfl : i = i' := by
        rw [List.getElem?_range hil] at hi'
        exact Option.some.inj hi'
      have k0 := hcell i hil 0 (by omega)
      have k1 := hcell i hil 1 (by omega)
      have k2 := hcell i hil 2 (by omega)
      rw [hadd] at k0 k1 k2
      exact ⟨k0, k1, k2⟩
    · obtain ⟨i, hi2, rfl⟩ := List.mem_map.1 hx
      have hil : i < len := List.mem_range.1 hi2
      refine hw _ (.tail _ (List.mem_append_left _ (weightsAll_mem (d := D i) (List.mem_map.2 ⟨i, hi2, rfl⟩) _ ?_)))
      rw [(hf2 i (by omega)).2, tokWeight]
      exact .head _
end
end Go.Proofs.YtchkngabppmbkaaDoor
