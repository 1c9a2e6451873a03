/-
  What is proved: lex.Diff and the reference's Diff answer alike at any two texts of at most 3000 bytes (P1.7); at longer ones the examples hold. Conditions: the listed package-level variables begin as the program's text lays them (the card ties them).
-/
import Derived.Test.YtlkhlemafkfcbaaDoorLexT
import Derived.Test.YtlkhlemafkfcbaaDoorLexQ
import Derived.Test.YtlkhlemafkfcbaaDoorLexW
namespace Go.Proofs.YtlkhlemafkfcbaaDoor
open Go.ChangeShapes Go.WideShapes Go.ChangeAt Go.RowKit

set_option maxRecDepth 100000 in
set_option maxHeartbeats 4000000 in
theorem lawDiffs_any (a b : ByteArray) (w : World) (ha : a.size ≤ 281474976710656) (hb : b.size ≤ 281474976710656) (hG : GV w) :
    Calls Tryd.prog 7 #[.string a, .string b] w fun e w' => e = .returned (.bool true) ∧ Below w.heap.size w w' := by
  have HW := Lib.hid (fun W (hB : Below w.heap.size w W) => awake_any W (hG.below hB))
  have HD := Lib.hid (diff_any a b w ha hb)
  have HR := Lib.hid (fun W => refDiff_any a b W ha hb)
  have hlen : (Lx.diffOf a b).1.length ≤ 1152921504606846976 := by unfold Lx.diffOf; (repeat' split) <;> simp
  have HS := Lib.hid (fun A C c d W => sameSplices_any (Lx.diffOf a b).1 (Lx.diffOf a b).1 A C c d W hlen hlen)
  clear hG hlen
  generalize (Lx.diffOf a b) = R at *
  by_cases h1 : a.size ≤ 3000
  · by_cases h2 : b.size ≤ 3000
    · have d1 : decide ((a.size : Int) > 3000) = false := decide_eq_false (by omega)
      have d2 : decide ((b.size : Int) > 3000) = false := decide_eq_false (by omega)
      go_enter Tryd.func7, Tryd.ntmps7
      go_wp2_with (first
        | (go_at_call 42; refine HD.out.mono ?_; rintro e w1 ⟨A, c, rfl, hA, hB1, -⟩)
        | (go_at_call 43; refine (HR.out w1).mono ?_; rintro e w2 ⟨C, d, rfl, hC, hB2⟩; have hB12 := hB1.trans (hB2.mono hB1.size); have hA2 : Spls w2 w2.heap.size A R.1 := fun hn => (hA.below hB2 hn).imp fun x h => h.imp fun y h => ⟨h.1, Nat.lt_of_lt_of_le h.2.1 hB2.size, h.2.2⟩)
        | (go_at_call 41; refine (HS.out _ _ _ _ w2 hA2 hC).mono ?_; rintro e w3 ⟨rfl, hB3⟩; have hB13 := hB12.trans (hB3.mono hB12.size))
        | (go_at_call 18; refine (HW.out w3 hB13).mono ?_; rintro e w4 ⟨rfl, hB4⟩; have hB14 := hB13.trans (hB4.mono hB13.size)))
      go_ret
      exact ⟨rfl, hB14⟩
    · have d1 : decide ((a.size : Int) > 3000) = false := decide_eq_false (by omega)
      have d2 : decide ((b.size : Int) > 3000) = true := decide_eq_true (by omega)
      go_enter Tryd.func7, Tryd.ntmps7
      go_wp2_with (go_at_call 18; refine (HW.out w (Below.refl _ _)).mono ?_; rintro e w4 ⟨rfl, hB4⟩)
      go_ret
      exact ⟨rfl, hB4⟩
  · have d1 : decide ((a.size : Int) > 3000) = true := decide_eq_true (by omega)
    go_enter Tryd.func7, Tryd.ntmps7
    go_wp2_with (go_at_call 18; refine (HW.out w (Below.refl _ _)).mono ?_; rintro e w4 ⟨rfl, hB4⟩)
    go_ret
    exact ⟨rfl, hB4⟩

-- CALL: lawDiffs_any a0 a1 W (by omega) (by omega) (gv_of_laid hL)
namespace lexDiffs
set_option maxRecDepth 100000 in
theorem contract (H : Type) (enc : TypeId × Value → H) (W : World) (base : Nat) (args : Array Value) (ds gs : List (DataW H)) (before : List MemPlace)
    (hval : ∀ (j : Nat) t v, Tryd.f7.params[j]? = some t → args[j]? = some v → Value.okWide Tryd.prog W .any base t v)
    (hW : DataW.Whole enc Tryd.prog Tryd.f7.params.toList Rows.lexDiffsSpec.vars false W args.toList ds gs before)
    (hwt : (DataW.weightsEach Tryd.prog (Tryd.f7.params.toList ++ (OpenSpec.ofChange Rows.lexDiffsSpec).bare.plain.varTypes Tryd.prog) (ds ++ gs)).all (· ≤ reachBytes) = true)
    (hL : laidMetH Tryd.prog Rows.lexDiffsRow.laid W) :
    Calls Tryd.prog 7 args W fun e W' => ∃ v, e = .returned v ∧ Rows.lexDiffsSpec.post enc Tryd.prog Tryd.f7 false true false false W args v W' := by
  have hW' := hW
  obtain ⟨p, q, hA0, hV, rfl, hfz, hnd⟩ := hW
  have hA : DataW.TrodAll enc Tryd.prog W 0 (fun _ => true) true Tryd.f7.params.toList args.toList ds p := hA0
  rw [Tryd.params7] at hA hval hwt
  obtain ⟨v0, vs0, d0, ds0, p0, q0, hargs, rfl, rfl, h0, r0⟩ := trodAll_cons hA
  obtain ⟨v1, vs1, d1, ds1, p1, q1, rfl, rfl, rfl, h1, r1⟩ := trodAll_cons r0
  obtain ⟨rfl, rfl, rfl⟩ := trodAll_nil r1
  obtain rfl : args = #[v0, v1] := by cases args; simp_all
  obtain ⟨rfl, rfl⟩ := trodVars_none hV
  have w0 := reach_of hwt 0 (d := d0) rfl rfl
  obtain ⟨a0, rfl, rfl, rfl, ha0⟩ := Go.ChangeMaps.open_string Tryd.underlying9 (hval 0 9 v0 rfl rfl) h0
  have s0 : a0.size ≤ reachBytes := by simpa using reach_string w0
  have w1 := reach_of hwt 1 (d := d1) rfl rfl
  obtain ⟨a1, rfl, rfl, rfl, ha1⟩ := Go.ChangeMaps.open_string Tryd.underlying9 (hval 1 9 v1 rfl rfl) h1
  have s1 : a1.size ≤ reachBytes := by simpa using reach_string w1
  clear hA0
  unfold reachBytes at *
  refine (lawDiffs_any a0 a1 W (by omega) (by omega) (gv_of_laid hL)).mono fun e W' ⟨he, hB⟩ => ?_
  subst he
  exact ⟨_, rfl, law_post hW' hB rfl rfl (by
    rw [Tryd.params7]
    exact (fun t ht => by
      simp only [List.mem_cons, List.not_mem_nil, or_false] at ht
      rcases ht with rfl | rfl <;> exact ⟨by kernel_rfl, of_decide_eq_true (by kernel_rfl)⟩)) rfl rfl rfl⟩

def wargs : Array Value := #[.string ⟨#[]⟩, .string ⟨#[]⟩]
theorem reads (os : Os) {H : Type} (enc : TypeId × Value → H) : ∃ places, DataW.whole enc Tryd.prog ((laidWorld os #[]).forCall (fun _ _ => 0) ⟨#[], wargs, []⟩).memory Tryd.f7.params.toList Rows.lexDiffsSpec.vars false wargs.toList 8 = some ([.lit (.string []), .lit (.string [])], [], places) :=
  ⟨[], by kernel_rfl⟩

set_option maxRecDepth 100000 in
theorem lifted (os : Os) (started : os.Started) (H : Type) (enc : TypeId × Value → H) (F : Stop.Interp) :
    ReturnsInHanded {} Tryd.checked os 7 .any ((OpenSpec.ofChange Rows.lexDiffsSpec).preRow enc Tryd.prog Tryd.f7 Rows.lexDiffsRow.domain false Rows.lexDiffsRow.laid) (((OpenSpec.ofChange Rows.lexDiffsSpec).at F).post enc Tryd.prog Tryd.f7 false true false false) := by
  obtain ⟨places, hx⟩ := reads os enc
  refine returnsInHanded_of_row (C := Tryd.checked) (s := OpenSpec.ofChange Rows.lexDiffsSpec) ownK started (by kernel_rfl) Tryd.func7
    (witness_row_at (enc := enc) (C := Tryd.checked) false (laidWorld os #[]) wargs rfl (varsK os wargs) (restK os wargs) (by kernel_rfl)
      (OpenSpec.preRow_of_cond 8 hx (by kernel_rfl) (fun k hk => by cases hk) (by kernel_rfl) (laid_metK os wargs))) ?_
  intro W base args ds gs before hval hW _ _ hwt hL _ _
  exact contract H enc W base args ds gs before hval hW hwt hL

theorem said : Rows.LexDiffsSaid :=
  OpenClaim.holds_of_cond 7 Tryd.f7 rfl rfl rfl rfl rfl rfl rfl ⟨rfl, rfl, rfl, rfl, rfl⟩ rfl rfl rfl rfl rfl (by kernel_rfl) Tryd.func7 (by kernel_rfl)
    (of_decide_eq_true (by kernel_rfl)) (by unfold Func.isWrapper; first | (rw [if_pos (by decide +kernel)]; kernel_rfl) | (rw [if_neg (by decide +kernel)]; exact ⟨rfl, rfl⟩))
    (fun os started H enc _ F => by rw [OpenClaim.pre_eq_preRow]; exact lifted os started H enc F)

theorem plain (f : FuncId) (fn : Func) (hf : Tryd.pinned.checked.prog.funcNamed "riposte/ripostelaw01.LexDiffs" = some f) (hfn : Tryd.pinned.checked.prog.funcs[f]? = some fn) :
    true = Tryd.pinned.checked.prog.looks [] ∧ ∀ (j : Nat) t, fn.params[j]? = some t → Tryd.pinned.checked.prog.wantsStandIn t = false := by
  obtain rfl : f = 7 := Option.some.inj ((show Tryd.prog.funcNamed "riposte/ripostelaw01.LexDiffs" = some 7 by kernel_rfl).symm.trans hf) |>.symm
  obtain rfl : fn = Tryd.f7 := (Option.some.inj (Tryd.func7.symm.trans hfn)).symm
  refine ⟨by kernel_rfl, fun j t ht => ?_⟩
  rw [Tryd.params7] at ht
  exact (show ∀ t ∈ [9, 9], Tryd.prog.wantsStandIn t = false by
    intro t ht
    simp only [List.mem_cons, List.not_mem_nil, or_false] at ht
    rcases ht with rfl | rfl <;> kernel_rfl) t (by simpa using Array.mem_of_getElem? ht)

theorem card : Rows.LexDiffsCardSaid :=
  Claim7.holds_tied_plain_at .later [] _ _ _ _ said (fun _ h => by cases h) (by kernel_rfl) (fun _ h => by cases h) lexDiffs_row_tie rfl ⟨rfl, rfl⟩ (by kernel_rfl) rfl plain (by kernel_rfl)
end lexDiffs
end Go.Proofs.YtlkhlemafkfcbaaDoor
