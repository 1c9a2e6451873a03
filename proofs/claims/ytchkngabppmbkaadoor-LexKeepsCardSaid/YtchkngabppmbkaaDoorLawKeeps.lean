/-
  What is proved: how many tokens of a text stay when it is spliced is, by lex.Kept, what the reference says, or the error is (P1.8), at any text and any splice whose texts have at most 3000 bytes; at longer ones the examples hold. Conditions: the listed package-level variables begin as the program's text lays them (the card ties them).
-/
import Derived.Test.YtchkngabppmbkaaDoorLexZO
import Derived.Test.YtchkngabppmbkaaDoorLexQ
import Derived.Test.YtchkngabppmbkaaDoorLexWB
namespace Go.Proofs.YtchkngabppmbkaaDoor
open Go.ChangeShapes Go.WideShapes Go.ChangeAt Go.RowKit

set_option maxRecDepth 100000 in
set_option maxHeartbeats 4000000 in
theorem lawKeeps_any (s : ByteArray) (x : Lx.Spl) (w : World) (hs : s.size ≤ 281474976710656) (hx : x.text.size ≤ 281474976710656) (hG : GV w) :
    Calls Tryd.prog 8 #[.string s, .agg #[.int .i64 x.lo, .int .i64 x.hi, .string x.text]] w fun e w' => e = .returned (.bool true) ∧ Below w.heap.size w w' := by
  have HW := Lib.hid (fun W (hB : Below w.heap.size w W) => awake_any W (hG.below hB))
  have hB0 : Below w.heap.size w (w.alloc (.cells #[.int .i64 x.lo, .int .i64 x.hi, .string x.text] 56)) := (Below.refl _ _).alloc (Nat.le_refl _) _
  have hbx : w.heap.size < (w.alloc (.cells #[.int .i64 x.lo, .int .i64 x.hi, .string x.text] 56)).heap.size := by simp
  by_cases h1 : s.size ≤ 3000
  · by_cases h2 : x.text.size ≤ 3000
    · have d1 : decide ((s.size : Int) > 3000) = false := decide_eq_false (by omega)
      have d2 : decide ((x.text.size : Int) > 3000) = false := decide_eq_false (by omega)
      have HK := Lib.hid (kept_any s x (w.alloc (.cells #[.int .i64 x.lo, .int .i64 x.hi, .string x.text] 56)) hs (by omega) (hG.below hB0))
      have HR := Lib.hid (fun W => refKept_any s x W hs (by omega))
      generalize Lx.keptOf s x = R at *
      clear hG
      go_enter Tryd.func8, Tryd.ntmps8
      go_wp2_with (first
        | (go_at_call 44; refine HK.out.mono ?_; rintro e w1 ⟨rfl, hB1⟩; have x0 := (hB1.cell (p := ⟨w.heap.size, 0, none⟩) hbx); have x1 := (hB1.cell (p := ⟨w.heap.size, 1, none⟩) hbx); have x2 := (hB1.cell (p := ⟨w.heap.size, 2, none⟩) hbx); have hBw1 := hB0.trans (hB1.mono hB0.size))
        | (go_at_call 45; refine (HR.out w1).mono ?_; rintro e w2 ⟨rfl, hB2⟩; have hBw2 := hBw1.trans (hB2.mono hBw1.size))
        | (go_at_call 18; refine (HW.out w2 hBw2).mono ?_; rintro e w3 ⟨rfl, hB3⟩; have hBw3 := hBw2.trans (hB3.mono hBw2.size)))
      go_ret
      exact ⟨rfl, hBw3⟩
    · have d1 : decide ((s.size : Int) > 3000) = false := decide_eq_false (by omega)
      have d2 : decide ((x.text.size : Int) > 3000) = true := decide_eq_true (by omega)
      go_enter Tryd.func8, Tryd.ntmps8
      go_wp2_with (go_at_call 18; refine (HW.out _ hB0).mono ?_; rintro e w4 ⟨rfl, hB4⟩)
      go_ret
      exact ⟨rfl, hB0.trans (hB4.mono hB0.size)⟩
  · have d1 : decide ((s.size : Int) > 3000) = true := decide_eq_true (by omega)
    go_enter Tryd.func8, Tryd.ntmps8
    go_wp2_with (go_at_call 18; refine (HW.out _ hB0).mono ?_; rintro e w4 ⟨rfl, hB4⟩)
    go_ret
    exact ⟨rfl, hB0.trans (hB4.mono hB0.size)⟩

-- CALL: lawKeeps_any a0 a1 W (by omega) (by omega) (gv_of_laid hL)
namespace lexKeeps
set_option maxRecDepth 100000 in
theorem contract (H : Type) (enc : TypeId × Value → H) (W : World) (base : Nat) (args : Array Value) (ds gs : List (DataW H)) (before : List MemPlace)
    (hval : ∀ (j : Nat) t v, Tryd.f8.params[j]? = some t → args[j]? = some v → Value.okWide Tryd.prog W .any base t v)
    (hW : DataW.Whole enc Tryd.prog Tryd.f8.params.toList Rows.lexKeepsSpec.vars false W args.toList ds gs before)
    (hwt : (DataW.weightsEach Tryd.prog (Tryd.f8.params.toList ++ (OpenSpec.ofChange Rows.lexKeepsSpec).bare.plain.varTypes Tryd.prog) (ds ++ gs)).all (· ≤ reachBytes) = true)
    (hL : laidMetH Tryd.prog Rows.lexKeepsRow.laid W) :
    Calls Tryd.prog 8 args W fun e W' => ∃ v, e = .returned v ∧ Rows.lexKeepsSpec.post enc Tryd.prog Tryd.f8 false true false false W args v W' := by
  have hW' := hW
  obtain ⟨p, q, hA0, hV, rfl, hfz, hnd⟩ := hW
  have hA : DataW.TrodAll enc Tryd.prog W 0 (fun _ => true) true Tryd.f8.params.toList args.toList ds p := hA0
  rw [Tryd.params8] at hA hval hwt
  obtain ⟨v0, vs0, d0, ds0, p0, q0, hargs, rfl, rfl, h0, r0⟩ := trodAll_cons hA
  obtain ⟨v1, vs1, d1, ds1, p1, q1, rfl, rfl, rfl, h1, r1⟩ := trodAll_cons r0
  obtain ⟨rfl, rfl, rfl⟩ := trodAll_nil r1
  obtain rfl : args = #[v0, v1] := by cases args; simp_all
  obtain ⟨rfl, rfl⟩ := trodVars_none hV
  have w0 := reach_of hwt 0 (d := d0) rfl rfl
  obtain ⟨a0, rfl, rfl, rfl, ha0⟩ := Go.ChangeMaps.open_string Tryd.underlying9 (hval 0 9 v0 rfl rfl) h0
  have s0 : a0.size ≤ reachBytes := by simpa using reach_string w0
  have w1 := reach_of hwt 1 (d := d1) rfl rfl
  obtain ⟨a1, rfl, hS1⟩ := open_splV (hval 1 56 v1 rfl rfl) h1 w1
  clear hA0
  unfold reachBytes at *
  refine (lawKeeps_any a0 a1 W (by omega) (by omega) (gv_of_laid hL)).mono fun e W' ⟨he, hB⟩ => ?_
  subst he
  exact ⟨_, rfl, law_post hW' hB rfl rfl (by
    rw [Tryd.params8]
    exact (fun t ht => by
      simp only [List.mem_cons, List.not_mem_nil, or_false] at ht
      rcases ht with rfl | rfl <;> exact ⟨by kernel_rfl, of_decide_eq_true (by kernel_rfl)⟩)) rfl rfl rfl⟩

def wargs : Array Value := #[.string ⟨#[]⟩, .agg #[.int .i64 0, .int .i64 0, .string ⟨#[]⟩]]
theorem reads (os : Os) {H : Type} (enc : TypeId × Value → H) : ∃ places, DataW.whole enc Tryd.prog ((laidWorld os #[]).forCall (fun _ _ => 0) ⟨#[], wargs, []⟩).memory Tryd.f8.params.toList Rows.lexKeepsSpec.vars false wargs.toList 8 = some ([.lit (.string []), .agg [.lit (.int .i64 0), .lit (.int .i64 0), .lit (.string [])]], [], places) :=
  ⟨[], by kernel_rfl⟩

set_option maxRecDepth 100000 in
theorem lifted (os : Os) (started : os.Started) (H : Type) (enc : TypeId × Value → H) (F : Stop.Interp) :
    ReturnsInHanded {} Tryd.checked os 8 .any ((OpenSpec.ofChange Rows.lexKeepsSpec).preRow enc Tryd.prog Tryd.f8 Rows.lexKeepsRow.domain false Rows.lexKeepsRow.laid) (((OpenSpec.ofChange Rows.lexKeepsSpec).at F).post enc Tryd.prog Tryd.f8 false true false false) := by
  obtain ⟨places, hx⟩ := reads os enc
  refine returnsInHanded_of_row (C := Tryd.checked) (s := OpenSpec.ofChange Rows.lexKeepsSpec) ownK started (by kernel_rfl) Tryd.func8
    (witness_row_at (enc := enc) (C := Tryd.checked) false (laidWorld os #[]) wargs rfl (varsK os wargs) (restK os wargs) (by kernel_rfl)
      (OpenSpec.preRow_of_cond 8 hx (by kernel_rfl) (fun k hk => by cases hk) (by kernel_rfl) (laid_metK os wargs))) ?_
  intro W base args ds gs before hval hW _ _ hwt hL _ _
  exact contract H enc W base args ds gs before hval hW hwt hL

theorem said : Rows.LexKeepsSaid :=
  OpenClaim.holds_of_cond 8 Tryd.f8 rfl rfl rfl rfl rfl rfl rfl ⟨rfl, rfl, rfl, rfl, rfl⟩ rfl rfl rfl rfl rfl (by kernel_rfl) Tryd.func8 (by kernel_rfl)
    (of_decide_eq_true (by kernel_rfl)) (by unfold Func.isWrapper; first | (rw [if_pos (by decide +kernel)]; kernel_rfl) | (rw [if_neg (by decide +kernel)]; exact ⟨rfl, rfl⟩))
    (fun os started H enc _ F => by rw [OpenClaim.pre_eq_preRow]; exact lifted os started H enc F)

theorem plain (f : FuncId) (fn : Func) (hf : Tryd.pinned.checked.prog.funcNamed "riposte/ripostelaw01.LexKeeps" = some f) (hfn : Tryd.pinned.checked.prog.funcs[f]? = some fn) :
    true = Tryd.pinned.checked.prog.looks [] ∧ ∀ (j : Nat) t, fn.params[j]? = some t → Tryd.pinned.checked.prog.wantsStandIn t = false := by
  obtain rfl : f = 8 := Option.some.inj ((show Tryd.prog.funcNamed "riposte/ripostelaw01.LexKeeps" = some 8 by kernel_rfl).symm.trans hf) |>.symm
  obtain rfl : fn = Tryd.f8 := (Option.some.inj (Tryd.func8.symm.trans hfn)).symm
  refine ⟨by kernel_rfl, fun j t ht => ?_⟩
  rw [Tryd.params8] at ht
  exact (show ∀ t ∈ [9, 56], Tryd.prog.wantsStandIn t = false by
    intro t ht
    simp only [List.mem_cons, List.not_mem_nil, or_false] at ht
    rcases ht with rfl | rfl <;> kernel_rfl) t (by simpa using Array.mem_of_getElem? ht)

theorem card : Rows.LexKeepsCardSaid :=
  Claim7.holds_tied_plain_at .later [] _ _ _ _ said (fun _ h => by cases h) (by kernel_rfl) (fun _ h => by cases h) lexKeeps_row_tie rfl ⟨rfl, rfl⟩ (by kernel_rfl) rfl plain (by kernel_rfl)
end lexKeeps
end Go.Proofs.YtchkngabppmbkaaDoor
