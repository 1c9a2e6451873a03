/-
  THE ROWS' COMMON PART, 2: arguments stay, whatever they are; slices of splices opened.
-/
import Derived.Test.YtchkngabppmbkaaDoorLexU
import Derived.Test.YtchkngabppmbkaaDoorLexL
import Derived.Carry
import Derived.Deep.Slices
namespace Go.Proofs.YtchkngabppmbkaaDoor
open Go.ChangeShapes Go.WideShapes Go.ChangeAt Go.RowKit Go.Deep

theorem laidOutK : laidOutB Tryd.prog = true := by kernel_rfl

section
variable {H : Type} {enc : TypeId × Value → H}
theorem trodAll_stays {W W' : World} (hb : Below W.heap.size W W') {sp : Nat → Bool} : ∀ {ts : List TypeId} {vs : List Value} {ds : List (DataW H)} {ps : List MemPlace},
    DataW.TrodAll enc Tryd.prog W 0 (fun _ => true) true ts vs ds ps → (∀ t ∈ ts, Tryd.prog.readableRec t = true ∧ t < Tryd.prog.types.size) → (∀ p ∈ ps, p.block < W.heap.size) → (∀ p ∈ ps, sp p.block = true) →
    DataW.TrodAll enc Tryd.prog W' 0 sp true ts vs ds ps
  | [], _, _, _, h, _, _, _ => by
    obtain ⟨rfl, rfl, rfl⟩ := trodAll_nil h
    exact trodAll_mk0
  | t :: ts, _, _, _, h, hr, hlt, hs => by
    obtain ⟨v, vs, d, ds, p, q, rfl, rfl, rfl, h1, h2⟩ := trodAll_cons h
    have hr1 := hr t (.head _)
    exact trodAll_cons_mk (Go.WideElems.Trod_stays laidOutK hr1.1 hr1.2 h1 (fun x hx => hb.same (hlt x (List.mem_append_left _ hx))) (fun x hx => hs x (List.mem_append_left _ hx)))
      (trodAll_stays hb h2 (fun t ht => hr t (.tail _ ht)) (fun x hx => hlt x (List.mem_append_right _ hx)) (fun x hx => hs x (List.mem_append_right _ hx)))

set_option maxRecDepth 100000 in
/-- A law's last step: true, the arguments as they were. -/
theorem law_post {f : Func} {s : ChangeSpec} {W W' : World} {args : Array Value} {ds gs : List (DataW H)} {before : List MemPlace}
    (hW : DataW.Whole enc Tryd.prog f.params.toList s.vars false W args.toList ds gs before) (hb : Below W.heap.size W W') (hv : s.vars = []) (hr : f.resultTypes = #[4])
    (hp : ∀ t ∈ f.params.toList, Tryd.prog.readableRec t = true ∧ t < Tryd.prog.types.size)
    (h1 : (s.fn H (ds ++ gs)).results = [.lit (.bool true)]) (h2 : (s.fn H (ds ++ gs)).args = ds) (h3 : (s.fn H (ds ++ gs)).vars = []) :
    s.post enc Tryd.prog f false true false false W args (.bool true) W' := by
  have hW' := hW
  obtain ⟨p, q, hA, hV, hpq, hfz, hnd⟩ := hW
  rw [hv] at hV
  obtain ⟨rfl, rfl⟩ := trodVars_none hV
  refine post_of_belowK (pa := p) (pv := []) hW' (fun b sp hd => ?_) (fun sp hs => ?_) (fun sp hs => ?_) (by rw [hpq]) hb (ok_one hr rfl (okWide_bool_mk Tryd.underlying4 _))
  · rw [h1, hr]; exact trodAll_cons_mk (shut_bool Tryd.underlying4 _) trodAll_mk0
  · rw [h2]
    exact trodAll_stays hb hA hp (fun x hx => hW'.lt x (by rw [hpq]; exact List.mem_append_left _ hx)) (fun x hx => hs x (by rw [hpq]; exact List.mem_append_left _ hx))
  · rw [h3, hv]; rfl

theorem weightsEach_mem {P : Program} : ∀ {ts : List TypeId} {ds : List (DataW H)} (i : Nat) {t : TypeId} {d : DataW H}, ts[i]? = some t → ds[i]? = some d → ∀ k ∈ d.weights P t, k ∈ DataW.weightsEach P ts ds
  | [], _, _, _, _, h, _ => by simp at h
  | _ :: _, [], _, _, _, _, h => by simp at h
  | t :: ts, d :: ds, 0, _, _, h1, h2 => fun k hk => by
    simp only [List.getElem?_cons_zero, Option.some.injEq] at h1 h2
    subst h1 h2
    unfold DataW.weightsEach
    exact List.mem_append_left _ hk
  | t :: ts, d :: ds, i + 1, _, _, h1, h2 => fun k hk => by
    simp only [List.getElem?_cons_succ] at h1 h2
    unfold DataW.weightsEach
    exact List.mem_append_right _ (weightsEach_mem i h1 h2 k hk)
theorem reach_of {ts : List TypeId} {ds : List (DataW H)} (h : (DataW.weightsEach Tryd.prog ts ds).all (· ≤ reachBytes) = true) (i : Nat) {t : TypeId} {d : DataW H} (h1 : ts[i]? = some t) (h2 : ds[i]? = some d) : ∀ k ∈ d.weights Tryd.prog t, k ≤ reachBytes := fun k hk => by
  have := List.all_eq_true.1 h k (weightsEach_mem i h1 h2 k hk)
  simpa using this
theorem reach_string {s : List UInt8} (h : ∀ k ∈ DataW.weights (H := H) Tryd.prog 9 (.lit (.string s)), k ≤ reachBytes) : s.length ≤ reachBytes := h _ (by simp [DataW.weights])

theorem cellsSpl : Tryd.prog.cellsOf 56 = 3 := by kernel_rfl
theorem cellsInt : Tryd.prog.cellsOf 3 = 1 := by kernel_rfl
theorem fieldsSpl : ∃ f0 f1 f2 : Field, Tryd.prog.underlying 56 = some (.struct #[f0, f1, f2]) ∧ f0.type = 3 ∧ f0.offset = 0 ∧ f1.type = 3 ∧ f1.offset = 1 ∧ f2.type = 9 ∧ f2.offset = 2 :=
  ⟨_, _, _, Tryd.underlying56, rfl, rfl, rfl, rfl, rfl, rfl⟩
set_option maxRecDepth 100000 in
/-- One splice read off three cells. -/
theorem open_spl {W : World} {base : Nat} {sp : Nat → Bool} {held : Bool} {n : Nat} {cs : List Value} {d : DataW H} {p : List MemPlace} (h : DataW.trod enc Tryd.prog W base sp held n 56 cs = some (d, p)) :
    ∃ x : Lx.Spl, cs = [.int .i64 x.lo, .int .i64 x.hi, .string x.text] ∧ d = .agg [.lit (.int .i64 x.lo), .lit (.int .i64 x.hi), .lit (.string x.text.data.toList)] ∧ p = [] ∧ x.text.size ≤ maxLen := by
  obtain ⟨f0, f1, f2, hu, t0, o0, t1, o1, t2, o2⟩ := fieldsSpl
  obtain ⟨xs, m, _, hx, hlen, hxl, hf⟩ := DataW.trod_struct hu h
  rw [cellsSpl] at hlen
  obtain ⟨v0, v1, v2, rfl⟩ : ∃ v0 v1 v2, cs = [v0, v1, v2] := by
    match cs, hlen with
    | [a, b, c], _ => exact ⟨a, b, c, rfl⟩
  obtain ⟨y0, y1, y2, rfl⟩ : ∃ y0 y1 y2, xs = [y0, y1, y2] := by
    match xs, hxl with
    | [a, b, c], _ => exact ⟨a, b, c, rfl⟩
  have g0 := hf 0 f0 rfl
  have g1 := hf 1 f1 rfl
  have g2 := hf 2 f2 rfl
  rw [t0, o0, cellsInt] at g0
  rw [t1, o1, cellsInt] at g1
  rw [t2, o2, cellsStr] at g2
  obtain ⟨n0, e0, z0, _⟩ := DataW.trod_int Tryd.underlying3 g0
  obtain ⟨n1, e1, z1, _⟩ := DataW.trod_int Tryd.underlying3 g1
  obtain ⟨s2, e2, z2, hs2⟩ := DataW.trod_string Tryd.underlying9 g2
  simp only [List.drop_zero, List.take_succ_cons, List.take_zero, List.drop_succ_cons, List.cons.injEq, and_true] at e0 e1 e2
  subst e0 e1 e2
  subst z0 z1 z2
  simp only [List.map_cons, List.map_nil, List.flatMap_cons, List.flatMap_nil, List.append_nil, Prod.mk.injEq] at hx
  exact ⟨⟨n0, n1, s2⟩, rfl, hx.1, hx.2, hs2⟩

theorem splWeight (x : Lx.Spl) : DataW.weights (H := H) Tryd.prog 56 (.agg [.lit (.int .i64 x.lo), .lit (.int .i64 x.hi), .lit (.string x.text.data.toList)]) = [x.text.size] := by
  obtain ⟨f0, f1, f2, hu, t0, o0, t1, o1, t2, o2⟩ := fieldsSpl
  simp [DataW.weights, hu, DataW.weightsEach]
theorem weightsAll_mem {P : Program} {e : TypeId} : ∀ {l : List (DataW H)} {d : DataW H}, d ∈ l → ∀ k ∈ d.weights P e, k ∈ DataW.weightsAll P e l
  | [], _, h, _, _ => by cases h
  | x :: l, d, h, k, hk => by
    unfold DataW.weightsAll
    rcases List.mem_cons.1 h with rfl | h
    · exact List.mem_append_left _ hk
    · exact List.mem_append_right _ (weightsAll_mem h k hk)

theorem block_of_cell {W : World} {a : Addr} {v : Value} (h : W.cell? a = some v) : a.block < W.heap.size := by
  unfold World.cell? at h
  rcases Nat.lt_or_ge a.block W.heap.size with h1 | h1
  · exact h1
  · rw [Array.getElem?_eq_none h1] at h; cases h

set_option maxRecDepth 100000 in
/-- An argument that is a slice of splices. -/
theorem open_spls {W : World} {base : Nat} {sp : Nat → Bool} {held : Bool} {r : Reach} {b0 : Nat} {v : Value} {d : DataW H} {ps : List MemPlace}
    (hval : Value.okWide Tryd.prog W r b0 45 v) (h : DataW.Trod enc Tryd.prog W base sp held 45 v d ps) (hw : ∀ k ∈ d.weights Tryd.prog 45, k ≤ reachBytes) :
    ∃ (A : Option Addr) (c : Nat) (l : List Lx.Spl), v = .slice A l.length c ∧ Spls W W.heap.size A l ∧ (∀ x ∈ l, x.text.size ≤ reachBytes) ∧ l.length * 32 ≤ reachBytes ∧ (A = none → c = 0 ∧ l = []) := by
  obtain ⟨a, len, cap, rfl⟩ := okWide_slice Tryd.underlying45 hval
  obtain ⟨fuel, hf⟩ := h
  rcases open_slice Tryd.underlying45 hf with ⟨hcs, _⟩ | ⟨b, len', cap', m, n, D, Pl, hcs, hb, hl, hm, hmm, hx, hi⟩
  · have : Value.slice a len cap = .slice none 0 0 := by simpa [Value.cells] using hcs
    cases this
    exact ⟨none, 0, [], rfl, fun h => absurd rfl h, by simp, by simp, fun _ => ⟨rfl, rfl⟩⟩
  · have : Value.slice a len cap = .slice (some b) len' cap' := by simpa [Value.cells] using hcs
    cases this
    rw [cellsSpl] at hi hx
    have hml : len ≤ m := by rw [hmm]; split <;> omega
    have hE : ∀ i, i < m → ∃ x : Lx.Spl, W.cells? base (b.add (i * 3)) 3 = some [.int .i64 x.lo, .int .i64 x.hi, .string x.text] ∧ D i = .agg [.lit (.int .i64 x.lo), .lit (.int .i64 x.hi), .lit (.string x.text.data.toList)] := fun i him => by
      obtain ⟨cs', hc, ht⟩ := hi i him
      obtain ⟨x, rfl, hd, _, _⟩ := open_spl ht
      exact ⟨x, hc, hd⟩
    have hF : ∃ f : Nat → Lx.Spl, ∀ i, i < m → W.cells? base (b.add (i * 3)) 3 = some [.int .i64 (f i).lo, .int .i64 (f i).hi, .string (f i).text] ∧ D i = .agg [.lit (.int .i64 (f i).lo), .lit (.int .i64 (f i).hi), .lit (.string (f i).text.data.toList)] :=
      ⟨fun i => if h : i < m then Classical.choose (hE i h) else ⟨0, 0, ⟨#[]⟩⟩, fun i h => by simp only [dif_pos h]; exact Classical.choose_spec (hE i h)⟩
    obtain ⟨f, hf2⟩ := hF
    simp only [Prod.mk.injEq] at hx
    obtain ⟨rfl, rfl⟩ := hx
    have hwt : DataW.weights Tryd.prog 45 (.slice ((List.range len).map D) ((List.range (m - len)).map fun j => D (len + j))) = (((List.range len).map D).length + ((List.range (m - len)).map fun j => D (len + j)).length) * Tryd.prog.bytesOf 56 :: (DataW.weightsAll Tryd.prog 56 ((List.range len).map D) ++ DataW.weightsAll Tryd.prog 56 ((List.range (m - len)).map fun j => D (len + j))) := by
      simp only [DataW.weights, Tryd.underlying45]
    rw [hwt] at hw
    have hbytes : Tryd.prog.bytesOf 56 = 32 := by kernel_rfl
    have h0 := hw _ (.head _)
    rw [hbytes, List.length_map, List.length_range, List.length_map, List.length_range] at h0
    refine ⟨some b, cap, (List.range len).map f, by rw [List.length_map, List.length_range], fun hne => ?_, fun x hx => ?_, by rw [List.length_map, List.length_range]; omega, fun h => by cases h⟩
    · have hl0 : 0 < len := by
        rcases Nat.eq_zero_or_pos len with e | e
        · subst e; exact absurd rfl hne
        · exact e
      have hcell : ∀ i, i < len → ∀ j, j < 3 → W.cell? ((b.add (i * 3)).add j) = [Value.int .i64 (f i).lo, .int .i64 (f i).hi, .string (f i).text][j]? := fun i hil j hj => (World.cells?_some (hf2 i (by omega)).1).2.2 j hj
      have h00 : W.cell? b = some (.int .i64 (f 0).lo) := hcell 0 hl0 0 (by omega)
      have hspot := World.cell?_spot h00
      have hbl := block_of_cell h00
      obtain ⟨bb, bo, bs⟩ := b
      simp only at hspot
      subst hspot
      have hadd : ∀ i j : Nat, ((⟨bb, bo, none⟩ : Addr).add (i * 3)).add j = ⟨bb, bo + i * 3 + j, none⟩ := fun i j => by
        unfold Addr.add; (repeat' split) <;> simp_all
      refine ⟨bb, bo, rfl, hbl, fun i x hx => ?_⟩
      rw [List.getElem?_map] at hx
      obtain ⟨i', hi', rfl⟩ := Option.map_eq_some_iff.1 hx
      have hil : i < len := by
        have := (List.getElem?_eq_some_iff.1 hi').1
        simpa using this
      obtain rfl : i = i' := by
        rw [List.getElem?_range hil] at hi'
        exact Option.some.inj hi'
      have k0 := hcell i hil 0 (by omega)
      have k1 := hcell i hil 1 (by omega)
      have k2 := hcell i hil 2 (by omega)
      rw [hadd] at k0 k1 k2
      exact ⟨k0, k1, k2⟩
    · obtain ⟨i, hi2, rfl⟩ := List.mem_map.1 hx
      have hil : i < len := List.mem_range.1 hi2
      refine hw _ (.tail _ (List.mem_append_left _ (weightsAll_mem (d := D i) (List.mem_map.2 ⟨i, hi2, rfl⟩) _ ?_)))
      rw [(hf2 i (by omega)).2, splWeight]
      exact .head _
end
end Go.Proofs.YtchkngabppmbkaaDoor
