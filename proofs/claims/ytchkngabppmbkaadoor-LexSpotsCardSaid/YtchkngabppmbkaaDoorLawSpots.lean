/-
  What is proved: the program's Spot and At answer as the reference's (P1.3), at any text of at most 600 bytes, and Spot also at any text of more than 2490 and at most 3000 bytes; at others the examples hold. Conditions: the listed package-level variables begin as the program's text lays them (the card ties them).
-/
import Derived.Test.YtchkngabppmbkaaDoorLexZX
import Derived.Test.YtchkngabppmbkaaDoorLexWB
import Derived.Test.YtchkngabppmbkaaDoorLexQ
import Derived.Test.YtchkngabppmbkaaDoorLexW
namespace Go.Proofs.YtchkngabppmbkaaDoor
open Go.ChangeShapes Go.WideShapes Go.ChangeAt Go.RowKit

theorem box_next {W W' : World} {b : Nat} {o : Obj} (h : W.heap[b]? = some o) (hB : Below W.heap.size W W') : W'.heap[b]? = some o := (hB.block _ (Array.getElem?_eq_some_iff.1 h).1).trans h
theorem box_lay {W : World} {b : Nat} {o : Obj} (h : W.heap[b]? = some o) (o' : Obj) : (W.alloc o').heap[b]? = some o := box_next h ((Below.refl _ _).alloc (Nat.le_refl _) _)

set_option maxRecDepth 100000 in
set_option maxHeartbeats 4000000 in
theorem lawSpots_any (s : ByteArray) (i a b : Int) (w : World) (hs : s.size ≤ 281474976710656) (hi0 : -9223372036854775808 ≤ i) (hi1 : i ≤ 9223372036854775807) (hG : GV w) :
    Calls Tryd.prog 4 #[.string s, .int .i64 i, .agg #[.int .i64 a, .int .i64 b]] w fun e w' => e = .returned (.bool true) ∧ Below w.heap.size w w' := by
  have HW := Lib.hid (fun W (hB : Below w.heap.size w W) => awake_any W (hG.below hB))
  have HB0 := Lib.hid (World.alloc_heap_new w (.cells #[.int .i64 a, .int .i64 b] 32))
  have hB0 : Below w.heap.size w (w.alloc (.cells #[.int .i64 a, .int .i64 b] 32)) := (Below.refl _ _).alloc (Nat.le_refl _) _
  clear hG
  by_cases hskip : (600 < s.size ∧ s.size ≤ 2490) ∨ 3000 < s.size
  · by_cases h2 : s.size ≤ 2490
    · have d1 : decide ((s.size : Int) > 600) = true := decide_eq_true (by omega)
      have d2 : decide ((s.size : Int) ≤ 2490) = true := decide_eq_true (by omega)
      clear hskip
      go_enter Tryd.func4, Tryd.ntmps4
      go_wp2_with (go_at_call 18; refine (HW.out _ hB0).mono ?_; rintro e w6 ⟨rfl, hB6⟩)
      go_ret
      exact ⟨rfl, hB0.trans (hB6.mono hB0.size)⟩
    · have d1 : decide ((s.size : Int) > 600) = true := decide_eq_true (by omega)
      have d2 : decide ((s.size : Int) ≤ 2490) = false := decide_eq_false (by omega)
      have d3 : decide ((s.size : Int) > 3000) = true := decide_eq_true (by omega)
      clear hskip
      go_enter Tryd.func4, Tryd.ntmps4
      go_wp2_with (go_at_call 18; refine (HW.out _ hB0).mono ?_; rintro e w6 ⟨rfl, hB6⟩)
      go_ret
      exact ⟨rfl, hB0.trans (hB6.mono hB0.size)⟩
  · have HS := fun W => spot_any s i hs W
    have HS2 := fun W => refSpot_any s i hi0 hi1 hs W
    have HA := fun W => at_any s a b hs W
    have HA2 := fun W => refAt_any s a b hs W
    unfold spotRes at HS HS2
    unfold atRes at HA HA2
    generalize (Lx.spotOf s i).1.1 = l1 at HS HS2
    generalize (Lx.spotOf s i).1.2 = c1 at HS HS2
    generalize (Lx.spotOf s i).2 = e1 at HS HS2
    generalize (Lx.atOf s a b).1 = k1 at HA HA2
    generalize (Lx.atOf s a b).2 = e2 at HA HA2
    have HS := Lib.hid HS; have HS2 := Lib.hid HS2; have HA := Lib.hid HA; have HA2 := Lib.hid HA2
    have qn := run_neq_sp
    have qg : ∀ (x y : Operand) (xs ys : Array Value) (w : World), (eqGuard .neq 32 x y (.agg xs) (.agg ys)).run Tryd.prog w = .ok () w := fun x y xs ys w => run_eqGuard_agg w _ _ x y xs ys (by kernel_rfl)
    have hq : spEq (l1 : Int) (c1 : Int) l1 c1 = true := by simp [spEq]
    by_cases h2 : s.size ≤ 600
    · have d1 : decide ((s.size : Int) > 600) = false := decide_eq_false (by omega)
      have d3 : decide ((s.size : Int) > 3000) = false := decide_eq_false (by omega)
      clear hskip
      go_enter Tryd.func4, Tryd.ntmps4
      go_wp2_with (first
        | (go_at_call 18; refine (HW.out w4 hBw4).mono ?_; rintro e w6 ⟨rfl, hB6⟩)
        | (go_at_call 27; refine (HA2.out w3).mono ?_; rintro e w4 ⟨rfl, hB4⟩; have hBw4 := hBw3.trans (hB4.mono hBw3.size))
        | (go_at_call 26; refine (HA.out _).mono ?_; rintro e w3 ⟨rfl, hB3⟩; have hBw3 := hBw2a.trans (hB3.mono hBw2a.size); obtain ⟨p0, p1, _, _⟩ := pair_cells (box_next (box_lay B02.out (.cells #[.int .i64 (l1 : Int), .int .i64 (c1 : Int)] 32)) hB3))
        | (go_at_call 25; refine (HS2.out _).mono ?_; rintro e w2 ⟨rfl, hB2⟩; have hBw2 := hBw1a.trans (hB2.mono hBw1a.size); have hBw2a := hBw2.alloc hBw2.size (.cells #[.int .i64 (l1 : Int), .int .i64 (c1 : Int)] 32); have B02 := Lib.hid (box_next (box_lay B01.out (.cells #[.int .i64 (l1 : Int), .int .i64 (c1 : Int)] 32)) hB2); have B12 := box_next (World.alloc_heap_new w1 (.cells #[.int .i64 (l1 : Int), .int .i64 (c1 : Int)] 32)) hB2; obtain ⟨q0, q1, _, _⟩ := pair_cells (box_lay B12 (.cells #[.int .i64 (l1 : Int), .int .i64 (c1 : Int)] 32)); obtain ⟨r0, r1, _, _⟩ := pair_cells (World.alloc_heap_new w2 (.cells #[.int .i64 (l1 : Int), .int .i64 (c1 : Int)] 32)); obtain ⟨m0, m1, _, _⟩ := pair_cells (box_lay B02.out (.cells #[.int .i64 (l1 : Int), .int .i64 (c1 : Int)] 32)); clear B12)
        | (go_at_call 24; refine (HS.out _).mono ?_; rintro e w1 ⟨rfl, hB1⟩; have hBw1 := hB0.trans (hB1.mono hB0.size); have hBw1a := hBw1.alloc hBw1.size (.cells #[.int .i64 (l1 : Int), .int .i64 (c1 : Int)] 32); have B01 := Lib.hid (box_next HB0.out hB1)))
      go_ret
      exact ⟨rfl, hBw4.trans (hB6.mono hBw4.size)⟩
    · have d1 : decide ((s.size : Int) > 600) = true := decide_eq_true (by omega)
      have d2 : decide ((s.size : Int) ≤ 2490) = false := decide_eq_false (by omega)
      have d3 : decide ((s.size : Int) > 3000) = false := decide_eq_false (by omega)
      clear hskip
      go_enter Tryd.func4, Tryd.ntmps4
      go_wp2_with (first
        | (go_at_call 18; refine (HW.out _ hBw2a).mono ?_; rintro e w6 ⟨rfl, hB6⟩)
        | (go_at_call 25; refine (HS2.out _).mono ?_; rintro e w2 ⟨rfl, hB2⟩; have hBw2 := hBw1a.trans (hB2.mono hBw1a.size); have hBw2a := hBw2.alloc hBw2.size (.cells #[.int .i64 (l1 : Int), .int .i64 (c1 : Int)] 32); have B12 := box_next (World.alloc_heap_new w1 (.cells #[.int .i64 (l1 : Int), .int .i64 (c1 : Int)] 32)) hB2; obtain ⟨q0, q1, _, _⟩ := pair_cells (box_lay B12 (.cells #[.int .i64 (l1 : Int), .int .i64 (c1 : Int)] 32)); obtain ⟨r0, r1, _, _⟩ := pair_cells (World.alloc_heap_new w2 (.cells #[.int .i64 (l1 : Int), .int .i64 (c1 : Int)] 32)); clear B12)
        | (go_at_call 24; refine (HS.out _).mono ?_; rintro e w1 ⟨rfl, hB1⟩; have hBw1 := hB0.trans (hB1.mono hB0.size); have hBw1a := hBw1.alloc hBw1.size (.cells #[.int .i64 (l1 : Int), .int .i64 (c1 : Int)] 32)))
      go_ret
      exact ⟨rfl, hBw2a.trans (hB6.mono hBw2a.size)⟩

-- CALL: lawSpots_any a0 a1 a2 b2 W (by omega) (of_decide_eq_true (Bool.and_eq_true_iff.1 (show (decide (IntKind.i64.min ≤ a1) && decide (a1 ≤ IntKind.i64.max)) = true from ha1)).1) (of_decide_eq_true (Bool.and_eq_true_iff.1 (show (decide (IntKind.i64.min ≤ a1) && decide (a1 ≤ IntKind.i64.max)) = true from ha1)).2) (gv_of_laid hL)
namespace lexSpots
set_option maxRecDepth 100000 in
theorem contract (H : Type) (enc : TypeId × Value → H) (W : World) (base : Nat) (args : Array Value) (ds gs : List (DataW H)) (before : List MemPlace)
    (hval : ∀ (j : Nat) t v, Tryd.f4.params[j]? = some t → args[j]? = some v → Value.okWide Tryd.prog W .any base t v)
    (hW : DataW.Whole enc Tryd.prog Tryd.f4.params.toList Rows.lexSpotsSpec.vars false W args.toList ds gs before)
    (hwt : (DataW.weightsEach Tryd.prog (Tryd.f4.params.toList ++ (OpenSpec.ofChange Rows.lexSpotsSpec).bare.plain.varTypes Tryd.prog) (ds ++ gs)).all (· ≤ reachBytes) = true)
    (hL : laidMetH Tryd.prog Rows.lexSpotsRow.laid W) :
    Calls Tryd.prog 4 args W fun e W' => ∃ v, e = .returned v ∧ Rows.lexSpotsSpec.post enc Tryd.prog Tryd.f4 false true false false W args v W' := by
  have hW' := hW
  obtain ⟨p, q, hA0, hV, rfl, hfz, hnd⟩ := hW
  have hA : DataW.TrodAll enc Tryd.prog W 0 (fun _ => true) true Tryd.f4.params.toList args.toList ds p := hA0
  rw [Tryd.params4] at hA hval hwt
  obtain ⟨v0, vs0, d0, ds0, p0, q0, hargs, rfl, rfl, h0, r0⟩ := trodAll_cons hA
  obtain ⟨v1, vs1, d1, ds1, p1, q1, rfl, rfl, rfl, h1, r1⟩ := trodAll_cons r0
  obtain ⟨v2, vs2, d2, ds2, p2, q2, rfl, rfl, rfl, h2, r2⟩ := trodAll_cons r1
  obtain ⟨rfl, rfl, rfl⟩ := trodAll_nil r2
  obtain rfl : args = #[v0, v1, v2] := by cases args; simp_all
  obtain ⟨rfl, rfl⟩ := trodVars_none hV
  have w0 := reach_of hwt 0 (d := d0) rfl rfl
  obtain ⟨a0, rfl, rfl, rfl, ha0⟩ := Go.ChangeMaps.open_string Tryd.underlying9 (hval 0 9 v0 rfl rfl) h0
  have s0 : a0.size ≤ reachBytes := by simpa using reach_string w0
  have w1 := reach_of hwt 1 (d := d1) rfl rfl
  obtain ⟨a1, rfl, rfl, rfl, ha1⟩ := open_int Tryd.underlying3 (hval 1 3 v1 rfl rfl) h1
  have w2 := reach_of hwt 2 (d := d2) rfl rfl
  obtain ⟨a2, b2, rfl, ha2, hb2⟩ := open_spotV (hval 2 32 v2 rfl rfl) h2
  clear hA0
  unfold reachBytes at *
  refine (lawSpots_any a0 a1 a2 b2 W (by omega) (of_decide_eq_true (Bool.and_eq_true_iff.1 (show (decide (IntKind.i64.min ≤ a1) && decide (a1 ≤ IntKind.i64.max)) = true from ha1)).1) (of_decide_eq_true (Bool.and_eq_true_iff.1 (show (decide (IntKind.i64.min ≤ a1) && decide (a1 ≤ IntKind.i64.max)) = true from ha1)).2) (gv_of_laid hL)).mono fun e W' ⟨he, hB⟩ => ?_
  subst he
  exact ⟨_, rfl, law_post hW' hB rfl rfl (by
    rw [Tryd.params4]
    exact (fun t ht => by
      simp only [List.mem_cons, List.not_mem_nil, or_false] at ht
      rcases ht with rfl | rfl | rfl <;> exact ⟨by kernel_rfl, of_decide_eq_true (by kernel_rfl)⟩)) rfl rfl rfl⟩

def wargs : Array Value := #[.string ⟨#[]⟩, .int .i64 0, .agg #[.int .i64 0, .int .i64 0]]
theorem reads (os : Os) {H : Type} (enc : TypeId × Value → H) : ∃ places, DataW.whole enc Tryd.prog ((laidWorld os #[]).forCall (fun _ _ => 0) ⟨#[], wargs, []⟩).memory Tryd.f4.params.toList Rows.lexSpotsSpec.vars false wargs.toList 8 = some ([.lit (.string []), .lit (.int .i64 0), .agg [.lit (.int .i64 0), .lit (.int .i64 0)]], [], places) :=
  ⟨[], by kernel_rfl⟩

set_option maxRecDepth 100000 in
theorem lifted (os : Os) (started : os.Started) (H : Type) (enc : TypeId × Value → H) (F : Stop.Interp) :
    ReturnsInHanded {} Tryd.checked os 4 .any ((OpenSpec.ofChange Rows.lexSpotsSpec).preRow enc Tryd.prog Tryd.f4 Rows.lexSpotsRow.domain false Rows.lexSpotsRow.laid) (((OpenSpec.ofChange Rows.lexSpotsSpec).at F).post enc Tryd.prog Tryd.f4 false true false false) := by
  obtain ⟨places, hx⟩ := reads os enc
  refine returnsInHanded_of_row (C := Tryd.checked) (s := OpenSpec.ofChange Rows.lexSpotsSpec) ownK started (by kernel_rfl) Tryd.func4
    (witness_row_at (enc := enc) (C := Tryd.checked) false (laidWorld os #[]) wargs rfl (varsK os wargs) (restK os wargs) (by kernel_rfl)
      (OpenSpec.preRow_of_cond 8 hx (by kernel_rfl) (fun k hk => by cases hk) (by kernel_rfl) (laid_metK os wargs))) ?_
  intro W base args ds gs before hval hW _ _ hwt hL _ _
  exact contract H enc W base args ds gs before hval hW hwt hL

theorem said : Rows.LexSpotsSaid :=
  OpenClaim.holds_of_cond 4 Tryd.f4 rfl rfl rfl rfl rfl rfl rfl ⟨rfl, rfl, rfl, rfl, rfl⟩ rfl rfl rfl rfl rfl (by kernel_rfl) Tryd.func4 (by kernel_rfl)
    (of_decide_eq_true (by kernel_rfl)) (by unfold Func.isWrapper; first | (rw [if_pos (by decide +kernel)]; kernel_rfl) | (rw [if_neg (by decide +kernel)]; exact ⟨rfl, rfl⟩))
    (fun os started H enc _ F => by rw [OpenClaim.pre_eq_preRow]; exact lifted os started H enc F)

theorem plain (f : FuncId) (fn : Func) (hf : Tryd.pinned.checked.prog.funcNamed "riposte/ripostelaw01.LexSpots" = some f) (hfn : Tryd.pinned.checked.prog.funcs[f]? = some fn) :
    true = Tryd.pinned.checked.prog.looks [] ∧ ∀ (j : Nat) t, fn.params[j]? = some t → Tryd.pinned.checked.prog.wantsStandIn t = false := by
  obtain rfl : f = 4 := Option.some.inj ((show Tryd.prog.funcNamed "riposte/ripostelaw01.LexSpots" = some 4 by kernel_rfl).symm.trans hf) |>.symm
  obtain rfl : fn = Tryd.f4 := (Option.some.inj (Tryd.func4.symm.trans hfn)).symm
  refine ⟨by kernel_rfl, fun j t ht => ?_⟩
  rw [Tryd.params4] at ht
  exact (show ∀ t ∈ [9, 3, 32], Tryd.prog.wantsStandIn t = false by
    intro t ht
    simp only [List.mem_cons, List.not_mem_nil, or_false] at ht
    rcases ht with rfl | rfl | rfl <;> kernel_rfl) t (by simpa using Array.mem_of_getElem? ht)

theorem card : Rows.LexSpotsCardSaid :=
  Claim7.holds_tied_plain_at .later [] _ _ _ _ said (fun _ h => by cases h) (by kernel_rfl) (fun _ h => by cases h) lexSpots_row_tie rfl ⟨rfl, rfl⟩ (by kernel_rfl) rfl plain (by kernel_rfl)
end lexSpots
end Go.Proofs.YtchkngabppmbkaaDoor
