/-
  What is proved: the tokens and the comments of any text of at most 3000 bytes, or the errors with their places, are as the reference says (P1.1); at longer ones the examples hold. Conditions: the listed package-level variables begin as the program's text lays them (the card ties them).
-/
import Derived.Test.YtlkhlemafkfcbaaDoorLexZJ
import Derived.Test.YtlkhlemafkfcbaaDoorLexQ
import Derived.Test.YtlkhlemafkfcbaaDoorLexW
namespace Go.Proofs.YtlkhlemafkfcbaaDoor
open Go.ChangeShapes Go.WideShapes Go.ChangeAt Go.RowKit

theorem Tks.later {w w' : World} {A : Option Addr} {l : List Lx.Tk} (h : Tks w w.heap.size A l) (hB : Below w.heap.size w w') : Tks w' w'.heap.size A l := (h.below hB).mono hB.size
theorem tokensOf_len (s : ByteArray) : (Lx.tokensOf s).1.length ≤ 900 := by
  by_cases h : (Lx.tokensOf s).2.2 = 0
  · exact (Lx.tokensOf_ok h).2.2.2.1
  · rw [Lx.tokensOf_bad h]; simp
theorem notesOf_len (s : ByteArray) : (Lx.notesOf s).1.length ≤ s.size := by
  unfold Lx.notesOf
  split
  · simp
  · exact Nat.le_trans (List.length_filter_le _ _) (Lx.pieces_length s)

set_option maxRecDepth 100000 in
set_option maxHeartbeats 4000000 in
theorem lawTokens_any (s : ByteArray) (w : World) (hs : s.size ≤ 281474976710656) (hG : GV w) :
    Calls Tryd.prog 3 #[.string s] w fun e w' => e = .returned (.bool true) ∧ Below w.heap.size w w' := by
  have HW := Lib.hid (fun W (hB : Below w.heap.size w W) => awake_any W (hG.below hB))
  by_cases h1 : s.size ≤ 3000
  · have d1 : decide ((s.size : Int) > 3000) = false := decide_eq_false (by omega)
    have HT := Lib.hid (tokens_any s hs w hG)
    have HN := Lib.hid (fun W (hB : Below w.heap.size w W) => notes_any s hs W (hG.below hB))
    have HT2 := Lib.hid (fun W => refTokens_any s W hs)
    have HN2 := Lib.hid (fun W => refNotes_any s W hs)
    have hl1 := tokensOf_len s
    have hl2 := notesOf_len s
    have HS := Lib.hid (fun A C c d W => sameTokens_any ((Lx.tokensOf s).1.map Lx.Item.tk) ((Lx.tokensOf s).1.map Lx.Item.tk) A C c d W (by rw [List.length_map]; omega) (by rw [List.length_map]; omega))
    have HS2 := Lib.hid (fun A C c d W => sameTokens_any ((Lx.notesOf s).1.map Lx.Item.tk) ((Lx.notesOf s).1.map Lx.Item.tk) A C c d W (by rw [List.length_map]; omega) (by rw [List.length_map]; omega))
    rw [List.length_map] at HS HS2
    generalize Lx.tokensOf s = R at *
    generalize Lx.notesOf s = R2 at *
    clear hG hl1 hl2
    go_enter Tryd.func3, Tryd.ntmps3
    go_wp2_with (first
      | (go_at_call 19; refine HT.out.mono ?_; rintro e w1 ⟨v1, rfl, hown1, hB1⟩; obtain ⟨ao1, cap1, rfl, htk1⟩ := own_tks hown1)
      | (go_at_call 20; refine (HT2.out w1).mono ?_; rintro e w2 ⟨v2, rfl, hown2, hB2⟩; obtain ⟨ao2, cap2, rfl, htk2⟩ := own_tks hown2; have hB12 := hB1.trans (hB2.mono hB1.size); have t12 := htk1.later hB2)
      | (go_at_call 21; refine (HN.out w2 hB12).mono ?_; rintro e w3 ⟨v3, rfl, hown3, hB3⟩; obtain ⟨ao3, cap3, rfl, htk3⟩ := own_tks hown3; have hB13 := hB12.trans (hB3.mono hB12.size); have t13 := t12.later hB3; have t23 := htk2.later hB3)
      | (go_at_call 22; refine (HN2.out w3).mono ?_; rintro e w4 ⟨v4, rfl, hown4, hB4⟩; obtain ⟨ao4, cap4, rfl, htk4⟩ := own_tks hown4; have hB14 := hB13.trans (hB4.mono hB13.size); have t14 := t13.later hB4; have t24 := t23.later hB4; have t34 := htk3.later hB4)
      | (go_at_call 23; refine (HS2.out _ _ _ _ w5 (t34.later hB5) (htk4.later hB5)).mono ?_; rintro e w6 ⟨rfl, hB6⟩; have hB16 := hB15.trans (hB6.mono hB15.size))
      | (go_at_call 23; refine (HS.out _ _ _ _ w4 t14 t24).mono ?_; rintro e w5 ⟨rfl, hB5⟩; have hB15 := hB14.trans (hB5.mono hB14.size))
      | (go_at_call 18; refine (HW.out w6 hB16).mono ?_; rintro e w7 ⟨rfl, hB7⟩; have hB17 := hB16.trans (hB7.mono hB16.size)))
    go_ret
    exact ⟨rfl, hB17⟩
  · have d1 : decide ((s.size : Int) > 3000) = true := decide_eq_true (by omega)
    go_enter Tryd.func3, Tryd.ntmps3
    go_wp2_with (go_at_call 18; refine (HW.out w (Below.refl _ _)).mono ?_; rintro e w4 ⟨rfl, hB4⟩)
    go_ret
    exact ⟨rfl, hB4⟩

-- CALL: lawTokens_any a0 W (by omega) (gv_of_laid hL)
namespace lexTokens
set_option maxRecDepth 100000 in
theorem contract (H : Type) (enc : TypeId × Value → H) (W : World) (base : Nat) (args : Array Value) (ds gs : List (DataW H)) (before : List MemPlace)
    (hval : ∀ (j : Nat) t v, Tryd.f3.params[j]? = some t → args[j]? = some v → Value.okWide Tryd.prog W .any base t v)
    (hW : DataW.Whole enc Tryd.prog Tryd.f3.params.toList Rows.lexTokensSpec.vars false W args.toList ds gs before)
    (hwt : (DataW.weightsEach Tryd.prog (Tryd.f3.params.toList ++ (OpenSpec.ofChange Rows.lexTokensSpec).bare.plain.varTypes Tryd.prog) (ds ++ gs)).all (· ≤ reachBytes) = true)
    (hL : laidMetH Tryd.prog Rows.lexTokensRow.laid W) :
    Calls Tryd.prog 3 args W fun e W' => ∃ v, e = .returned v ∧ Rows.lexTokensSpec.post enc Tryd.prog Tryd.f3 false true false false W args v W' := by
  have hW' := hW
  obtain ⟨p, q, hA0, hV, rfl, hfz, hnd⟩ := hW
  have hA : DataW.TrodAll enc Tryd.prog W 0 (fun _ => true) true Tryd.f3.params.toList args.toList ds p := hA0
  rw [Tryd.params3] at hA hval hwt
  obtain ⟨v0, vs0, d0, ds0, p0, q0, hargs, rfl, rfl, h0, r0⟩ := trodAll_cons hA
  obtain ⟨rfl, rfl, rfl⟩ := trodAll_nil r0
  obtain rfl : args = #[v0] := by cases args; simp_all
  obtain ⟨rfl, rfl⟩ := trodVars_none hV
  have w0 := reach_of hwt 0 (d := d0) rfl rfl
  obtain ⟨a0, rfl, rfl, rfl, ha0⟩ := Go.ChangeMaps.open_string Tryd.underlying9 (hval 0 9 v0 rfl rfl) h0
  have s0 : a0.size ≤ reachBytes := by simpa using reach_string w0
  clear hA0
  unfold reachBytes at *
  refine (lawTokens_any a0 W (by omega) (gv_of_laid hL)).mono fun e W' ⟨he, hB⟩ => ?_
  subst he
  exact ⟨_, rfl, law_post hW' hB rfl rfl (by
    rw [Tryd.params3]
    exact (fun t ht => by
      simp only [List.mem_cons, List.not_mem_nil, or_false] at ht
      rcases ht with rfl <;> exact ⟨by kernel_rfl, of_decide_eq_true (by kernel_rfl)⟩)) rfl rfl rfl⟩

def wargs : Array Value := #[.string ⟨#[]⟩]
theorem reads (os : Os) {H : Type} (enc : TypeId × Value → H) : ∃ places, DataW.whole enc Tryd.prog ((laidWorld os #[]).forCall (fun _ _ => 0) ⟨#[], wargs, []⟩).memory Tryd.f3.params.toList Rows.lexTokensSpec.vars false wargs.toList 8 = some ([.lit (.string [])], [], places) :=
  ⟨[], by kernel_rfl⟩

set_option maxRecDepth 100000 in
theorem lifted (os : Os) (started : os.Started) (H : Type) (enc : TypeId × Value → H) (F : Stop.Interp) :
    ReturnsInHanded {} Tryd.checked os 3 .any ((OpenSpec.ofChange Rows.lexTokensSpec).preRow enc Tryd.prog Tryd.f3 Rows.lexTokensRow.domain false Rows.lexTokensRow.laid) (((OpenSpec.ofChange Rows.lexTokensSpec).at F).post enc Tryd.prog Tryd.f3 false true false false) := by
  obtain ⟨places, hx⟩ := reads os enc
  refine returnsInHanded_of_row (C := Tryd.checked) (s := OpenSpec.ofChange Rows.lexTokensSpec) ownK started (by kernel_rfl) Tryd.func3
    (witness_row_at (enc := enc) (C := Tryd.checked) false (laidWorld os #[]) wargs rfl (varsK os wargs) (restK os wargs) (by kernel_rfl)
      (OpenSpec.preRow_of_cond 8 hx (by kernel_rfl) (fun k hk => by cases hk) (by kernel_rfl) (laid_metK os wargs))) ?_
  intro W base args ds gs before hval hW _ _ hwt hL _ _
  exact contract H enc W base args ds gs before hval hW hwt hL

theorem said : Rows.LexTokensSaid :=
  OpenClaim.holds_of_cond 3 Tryd.f3 rfl rfl rfl rfl rfl rfl rfl ⟨rfl, rfl, rfl, rfl, rfl⟩ rfl rfl rfl rfl rfl (by kernel_rfl) Tryd.func3 (by kernel_rfl)
    (of_decide_eq_true (by kernel_rfl)) (by unfold Func.isWrapper; first | (rw [if_pos (by decide +kernel)]; kernel_rfl) | (rw [if_neg (by decide +kernel)]; exact ⟨rfl, rfl⟩))
    (fun os started H enc _ F => by rw [OpenClaim.pre_eq_preRow]; exact lifted os started H enc F)

theorem plain (f : FuncId) (fn : Func) (hf : Tryd.pinned.checked.prog.funcNamed "riposte/ripostelaw01.LexTokens" = some f) (hfn : Tryd.pinned.checked.prog.funcs[f]? = some fn) :
    true = Tryd.pinned.checked.prog.looks [] ∧ ∀ (j : Nat) t, fn.params[j]? = some t → Tryd.pinned.checked.prog.wantsStandIn t = false := by
  obtain rfl : f = 3 := Option.some.inj ((show Tryd.prog.funcNamed "riposte/ripostelaw01.LexTokens" = some 3 by kernel_rfl).symm.trans hf) |>.symm
  obtain rfl : fn = Tryd.f3 := (Option.some.inj (Tryd.func3.symm.trans hfn)).symm
  refine ⟨by kernel_rfl, fun j t ht => ?_⟩
  rw [Tryd.params3] at ht
  exact (show ∀ t ∈ [9], Tryd.prog.wantsStandIn t = false by
    intro t ht
    simp only [List.mem_cons, List.not_mem_nil, or_false] at ht
    rcases ht with rfl <;> kernel_rfl) t (by simpa using Array.mem_of_getElem? ht)

theorem card : Rows.LexTokensCardSaid :=
  Claim7.holds_tied_plain_at .later [] _ _ _ _ said (fun _ h => by cases h) (by kernel_rfl) (fun _ h => by cases h) lexTokens_row_tie rfl ⟨rfl, rfl⟩ (by kernel_rfl) rfl plain (by kernel_rfl)
end lexTokens
end Go.Proofs.YtlkhlemafkfcbaaDoor
