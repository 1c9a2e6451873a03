/-
  What is proved: any text of at most 3000 bytes in which any name is any other one, or the error, is as the reference says (P1.9; names of at most 100 bytes); at longer ones the examples hold. Conditions: the listed package-level variables begin as the program's text lays them (the card ties them).
-/
import Derived.Test.YtlkhlemafkfcbaaDoorLexZK
import Derived.Test.YtlkhlemafkfcbaaDoorLexQ
import Derived.Test.YtlkhlemafkfcbaaDoorLexW
namespace Go.Proofs.YtlkhlemafkfcbaaDoor
open Go.ChangeShapes Go.WideShapes Go.ChangeAt Go.RowKit

set_option maxRecDepth 100000 in
set_option maxHeartbeats 4000000 in
theorem refRename_any (s old name : ByteArray) (w : World) (hz : s.size ≤ 281474976710656) (ho : old.size ≤ 1000000) (hn : name.size ≤ 1000000) :
    Calls Tryd.prog 47 #[.string s, .string old, .string name] w (TextRet (Lx.renameOf s old name) w) := by
  by_cases h0 : (Lx.tokensOf s).2.2 = 0
  · cases hro : Lx.tokOk (Lx.nameTk old)
    · have HV : Hid (Lx.renameOf s old name = (⟨#[]⟩, 2)) := by rw [Hid, Lx.renameOf, if_neg (by omega), if_pos (by simp [hro])]
      have HT := Lib.hid (refTokens_any s w hz)
      unfold ToksRet at HT
      rw [h0] at HT
      have HI1 := Lib.hid (fun W => refIsName_any old W (by omega))
      rw [show Lx.tokOk ⟨1, old, 0⟩ = false from hro] at HI1
      clear h0 hro
      go_enter Tryd.func47, Tryd.ntmps47
      go_wp2_with (first
        | (go_at_call 20; refine HT.out.mono ?_; rintro e w1 ⟨v, rfl, hown, hB1⟩; clear hown)
        | (go_at_call 78; refine (HI1.out w1).mono ?_; rintro e w2 ⟨rfl, hB2⟩; have hB12 := hB1.trans (hB2.mono hB1.size)))
      go_ret2
      exact textRet HV.out rfl hB12
    · cases hrn : Lx.tokOk (Lx.nameTk name)
      · have HV : Hid (Lx.renameOf s old name = (⟨#[]⟩, 2)) := by rw [Hid, Lx.renameOf, if_neg (by omega), if_pos (by simp [hrn])]
        have HT := Lib.hid (refTokens_any s w hz)
        unfold ToksRet at HT
        rw [h0] at HT
        have HI1 := Lib.hid (fun W => refIsName_any old W (by omega))
        rw [show Lx.tokOk ⟨1, old, 0⟩ = true from hro] at HI1
        have HI2 := Lib.hid (fun W => refIsName_any name W (by omega))
        rw [show Lx.tokOk ⟨1, name, 0⟩ = false from hrn] at HI2
        clear h0 hro hrn
        go_enter Tryd.func47, Tryd.ntmps47
        go_wp2_with (first
          | (go_at_call 20; refine HT.out.mono ?_; rintro e w1 ⟨v, rfl, hown, hB1⟩; clear hown)
          | (go_at_call 78; refine (HI2.out w2).mono ?_; rintro e w3 ⟨rfl, hB3⟩; have hB13 := hB12.trans (hB3.mono hB12.size))
          | (go_at_call 78; refine (HI1.out w1).mono ?_; rintro e w2 ⟨rfl, hB2⟩; have hB12 := hB1.trans (hB2.mono hB1.size)))
        go_ret2
        exact textRet HV.out rfl hB13
      · exact refRename_loop s old name w ho hn h0 hz hro hrn
  · have HT := Lib.hid (refTokens_any s w hz)
    unfold ToksRet at HT
    have HV : Hid (Lx.renameOf s old name = (⟨#[]⟩, (Lx.tokensOf s).2.2)) := by rw [Hid, Lx.renameOf, if_pos h0]
    generalize Lx.tokensOf s = T at *
    obtain ⟨L, p, er⟩ := T
    simp only at h0
    have h0' : ((er : Int) != 0) = true := by rw [bne_iff_ne]; omega
    clear h0
    go_enter Tryd.func47, Tryd.ntmps47
    go_wp2_with (go_at_call 20; refine HT.out.mono ?_; rintro e w1 ⟨v, rfl, hown, hB1⟩; clear hown)
    go_ret2
    exact textRet HV.out rfl hB1

set_option maxRecDepth 100000 in
set_option maxHeartbeats 4000000 in
theorem lawRenames_any (s old name : ByteArray) (w : World) (hs : s.size ≤ 281474976710656) (ho : old.size ≤ 281474976710656) (hn : name.size ≤ 281474976710656) (hG : GV w) :
    Calls Tryd.prog 9 #[.string s, .string old, .string name] w fun e w' => e = .returned (.bool true) ∧ Below w.heap.size w w' := by
  have HW := Lib.hid (fun W (hB : Below w.heap.size w W) => awake_any W (hG.below hB))
  by_cases h1 : s.size ≤ 3000
  · have d1 : decide ((s.size : Int) > 3000) = false := decide_eq_false (by omega)
    by_cases h2 : old.size ≤ 100
    · have d2 : decide ((old.size : Int) > 100) = false := decide_eq_false (by omega)
      by_cases h3 : name.size ≤ 100
      · have d3 : decide ((name.size : Int) > 100) = false := decide_eq_false (by omega)
        have HR := Lib.hid (rename_any s old name w hs (by omega) (by omega) hG)
        have HR2 := Lib.hid (fun W => refRename_any s old name W hs (by omega) (by omega))
        have hbs := str_eq (Lx.renameOf s old name).1 (Lx.renameOf s old name).1
        rw [decide_eq_true rfl] at hbs
        clear hG
        generalize Lx.renameOf s old name = R at *
        go_enter Tryd.func9, Tryd.ntmps9
        go_wp2_with (first
          | (go_at_call 46; refine HR.out.mono ?_; rintro e w1 ⟨rfl, hB1⟩)
          | (go_at_call 47; refine (HR2.out w1).mono ?_; rintro e w2 ⟨rfl, hB2⟩; have hB12 := hB1.trans (hB2.mono hB1.size))
          | (go_at_call 18; refine (HW.out w2 hB12).mono ?_; rintro e w3 ⟨rfl, hB3⟩; have hB13 := hB12.trans (hB3.mono hB12.size)))
        go_ret
        exact ⟨rfl, hB13⟩
      · have d3 : decide ((name.size : Int) > 100) = true := decide_eq_true (by omega)
        go_enter Tryd.func9, Tryd.ntmps9
        go_wp2_with (go_at_call 18; refine (HW.out w (Below.refl _ _)).mono ?_; rintro e w4 ⟨rfl, hB4⟩)
        go_ret
        exact ⟨rfl, hB4⟩
    · have d2 : decide ((old.size : Int) > 100) = true := decide_eq_true (by omega)
      go_enter Tryd.func9, Tryd.ntmps9
      go_wp2_with (go_at_call 18; refine (HW.out w (Below.refl _ _)).mono ?_; rintro e w4 ⟨rfl, hB4⟩)
      go_ret
      exact ⟨rfl, hB4⟩
  · have d1 : decide ((s.size : Int) > 3000) = true := decide_eq_true (by omega)
    go_enter Tryd.func9, Tryd.ntmps9
    go_wp2_with (go_at_call 18; refine (HW.out w (Below.refl _ _)).mono ?_; rintro e w4 ⟨rfl, hB4⟩)
    go_ret
    exact ⟨rfl, hB4⟩

-- CALL: lawRenames_any a0 a1 a2 W (by omega) (by omega) (by omega) (gv_of_laid hL)
namespace lexRenames
set_option maxRecDepth 100000 in
theorem contract (H : Type) (enc : TypeId × Value → H) (W : World) (base : Nat) (args : Array Value) (ds gs : List (DataW H)) (before : List MemPlace)
    (hval : ∀ (j : Nat) t v, Tryd.f9.params[j]? = some t → args[j]? = some v → Value.okWide Tryd.prog W .any base t v)
    (hW : DataW.Whole enc Tryd.prog Tryd.f9.params.toList Rows.lexRenamesSpec.vars false W args.toList ds gs before)
    (hwt : (DataW.weightsEach Tryd.prog (Tryd.f9.params.toList ++ (OpenSpec.ofChange Rows.lexRenamesSpec).bare.plain.varTypes Tryd.prog) (ds ++ gs)).all (· ≤ reachBytes) = true)
    (hL : laidMetH Tryd.prog Rows.lexRenamesRow.laid W) :
    Calls Tryd.prog 9 args W fun e W' => ∃ v, e = .returned v ∧ Rows.lexRenamesSpec.post enc Tryd.prog Tryd.f9 false true false false W args v W' := by
  have hW' := hW
  obtain ⟨p, q, hA0, hV, rfl, hfz, hnd⟩ := hW
  have hA : DataW.TrodAll enc Tryd.prog W 0 (fun _ => true) true Tryd.f9.params.toList args.toList ds p := hA0
  rw [Tryd.params9] at hA hval hwt
  obtain ⟨v0, vs0, d0, ds0, p0, q0, hargs, rfl, rfl, h0, r0⟩ := trodAll_cons hA
  obtain ⟨v1, vs1, d1, ds1, p1, q1, rfl, rfl, rfl, h1, r1⟩ := trodAll_cons r0
  obtain ⟨v2, vs2, d2, ds2, p2, q2, rfl, rfl, rfl, h2, r2⟩ := trodAll_cons r1
  obtain ⟨rfl, rfl, rfl⟩ := trodAll_nil r2
  obtain rfl : args = #[v0, v1, v2] := by cases args; simp_all
  obtain ⟨rfl, rfl⟩ := trodVars_none hV
  have w0 := reach_of hwt 0 (d := d0) rfl rfl
  obtain ⟨a0, rfl, rfl, rfl, ha0⟩ := Go.ChangeMaps.open_string Tryd.underlying9 (hval 0 9 v0 rfl rfl) h0
  have s0 : a0.size ≤ reachBytes := by simpa using reach_string w0
  have w1 := reach_of hwt 1 (d := d1) rfl rfl
  obtain ⟨a1, rfl, rfl, rfl, ha1⟩ := Go.ChangeMaps.open_string Tryd.underlying9 (hval 1 9 v1 rfl rfl) h1
  have s1 : a1.size ≤ reachBytes := by simpa using reach_string w1
  have w2 := reach_of hwt 2 (d := d2) rfl rfl
  obtain ⟨a2, rfl, rfl, rfl, ha2⟩ := Go.ChangeMaps.open_string Tryd.underlying9 (hval 2 9 v2 rfl rfl) h2
  have s2 : a2.size ≤ reachBytes := by simpa using reach_string w2
  clear hA0
  unfold reachBytes at *
  refine (lawRenames_any a0 a1 a2 W (by omega) (by omega) (by omega) (gv_of_laid hL)).mono fun e W' ⟨he, hB⟩ => ?_
  subst he
  exact ⟨_, rfl, law_post hW' hB rfl rfl (by
    rw [Tryd.params9]
    exact (fun t ht => by
      simp only [List.mem_cons, List.not_mem_nil, or_false] at ht
      rcases ht with rfl | rfl | rfl <;> exact ⟨by kernel_rfl, of_decide_eq_true (by kernel_rfl)⟩)) rfl rfl rfl⟩

def wargs : Array Value := #[.string ⟨#[]⟩, .string ⟨#[]⟩, .string ⟨#[]⟩]
theorem reads (os : Os) {H : Type} (enc : TypeId × Value → H) : ∃ places, DataW.whole enc Tryd.prog ((laidWorld os #[]).forCall (fun _ _ => 0) ⟨#[], wargs, []⟩).memory Tryd.f9.params.toList Rows.lexRenamesSpec.vars false wargs.toList 8 = some ([.lit (.string []), .lit (.string []), .lit (.string [])], [], places) :=
  ⟨[], by kernel_rfl⟩

set_option maxRecDepth 100000 in
theorem lifted (os : Os) (started : os.Started) (H : Type) (enc : TypeId × Value → H) (F : Stop.Interp) :
    ReturnsInHanded {} Tryd.checked os 9 .any ((OpenSpec.ofChange Rows.lexRenamesSpec).preRow enc Tryd.prog Tryd.f9 Rows.lexRenamesRow.domain false Rows.lexRenamesRow.laid) (((OpenSpec.ofChange Rows.lexRenamesSpec).at F).post enc Tryd.prog Tryd.f9 false true false false) := by
  obtain ⟨places, hx⟩ := reads os enc
  refine returnsInHanded_of_row (C := Tryd.checked) (s := OpenSpec.ofChange Rows.lexRenamesSpec) ownK started (by kernel_rfl) Tryd.func9
    (witness_row_at (enc := enc) (C := Tryd.checked) false (laidWorld os #[]) wargs rfl (varsK os wargs) (restK os wargs) (by kernel_rfl)
      (OpenSpec.preRow_of_cond 8 hx (by kernel_rfl) (fun k hk => by cases hk) (by kernel_rfl) (laid_metK os wargs))) ?_
  intro W base args ds gs before hval hW _ _ hwt hL _ _
  exact contract H enc W base args ds gs before hval hW hwt hL

theorem said : Rows.LexRenamesSaid :=
  OpenClaim.holds_of_cond 9 Tryd.f9 rfl rfl rfl rfl rfl rfl rfl ⟨rfl, rfl, rfl, rfl, rfl⟩ rfl rfl rfl rfl rfl (by kernel_rfl) Tryd.func9 (by kernel_rfl)
    (of_decide_eq_true (by kernel_rfl)) (by unfold Func.isWrapper; first | (rw [if_pos (by decide +kernel)]; kernel_rfl) | (rw [if_neg (by decide +kernel)]; exact ⟨rfl, rfl⟩))
    (fun os started H enc _ F => by rw [OpenClaim.pre_eq_preRow]; exact lifted os started H enc F)

theorem plain (f : FuncId) (fn : Func) (hf : Tryd.pinned.checked.prog.funcNamed "riposte/ripostelaw01.LexRenames" = some f) (hfn : Tryd.pinned.checked.prog.funcs[f]? = some fn) :
    true = Tryd.pinned.checked.prog.looks [] ∧ ∀ (j : Nat) t, fn.params[j]? = some t → Tryd.pinned.checked.prog.wantsStandIn t = false := by
  obtain rfl : f = 9 := Option.some.inj ((show Tryd.prog.funcNamed "riposte/ripostelaw01.LexRenames" = some 9 by kernel_rfl).symm.trans hf) |>.symm
  obtain rfl : fn = Tryd.f9 := (Option.some.inj (Tryd.func9.symm.trans hfn)).symm
  refine ⟨by kernel_rfl, fun j t ht => ?_⟩
  rw [Tryd.params9] at ht
  exact (show ∀ t ∈ [9, 9, 9], Tryd.prog.wantsStandIn t = false by
    intro t ht
    simp only [List.mem_cons, List.not_mem_nil, or_false] at ht
    rcases ht with rfl | rfl | rfl <;> kernel_rfl) t (by simpa using Array.mem_of_getElem? ht)

theorem card : Rows.LexRenamesCardSaid :=
  Claim7.holds_tied_plain_at .later [] _ _ _ _ said (fun _ h => by cases h) (by kernel_rfl) (fun _ h => by cases h) lexRenames_row_tie rfl ⟨rfl, rfl⟩ (by kernel_rfl) rfl plain (by kernel_rfl)
end lexRenames
end Go.Proofs.YtlkhlemafkfcbaaDoor
