/-
  What is proved: the program's Tight and Pairs answer as the reference's (P1.3, P1.4), at any list of at most 1000 tokens whose texts have at most 100 bytes; at others the examples hold. Conditions: the listed package-level variables begin as the program's text lays them (the card ties them).
-/
import Derived.Test.YtchkngabppmbkaaDoorLexYA
import Derived.Test.YtchkngabppmbkaaDoorLexZR
import Derived.Test.YtchkngabppmbkaaDoorLexQ
import Derived.Test.YtchkngabppmbkaaDoorLexWB
namespace Go.Proofs.YtchkngabppmbkaaDoor
open Go.ChangeShapes Go.WideShapes Go.ChangeAt Go.RowKit

theorem tksLaterT {w w' : World} {A : Option Addr} {l : List Lx.Tk} (h : Tks w w.heap.size A l) (hB : Below w.heap.size w w') : Tks w' w'.heap.size A l := (h.below hB).mono hB.size

set_option maxRecDepth 100000 in
set_option maxHeartbeats 4000000 in
theorem lawTights_any (l : List Lx.Tk) (A : Option Addr) (c : Nat) (w : World) (hl : l.length ≤ 281474976710656) (hz : ∀ x ∈ l, x.text.size ≤ 281474976710656) (hS : Tks w w.heap.size A l) (hN : NilOk A c l.length) (hG : GV w) :
    Calls Tryd.prog 5 #[.slice A l.length c] w fun e w' => e = .returned (.bool true) ∧ Below w.heap.size w w' := by
  have HW := Lib.hid (fun W (hB : Below w.heap.size w W) => awake_any W (hG.below hB))
  have HF := Lib.hid (short_any l A c w (by omega) hz hS)
  cases hsh : Lx.shortOf l
  · rw [hsh] at HF
    clear hG hz
    go_enter Tryd.func5, Tryd.ntmps5
    go_wp2_with (first
      | (go_at_call 28; refine HF.out.mono ?_; rintro e w1 ⟨rfl, rfl⟩)
      | (go_at_call 18; refine (HW.out _ (Below.refl _ _)).mono ?_; rintro e w4 ⟨rfl, hB4⟩))
    go_ret
    exact ⟨rfl, hB4⟩
  · rw [hsh] at HF
    obtain ⟨hm, hlen⟩ := Lx.shortOf_mem hsh
    have hTI := fun A c W (hB : Below w.heap.size w W) hS => tight_any l A c W (hG.below hB) (by omega) (fun x hx => by have := hm x hx; omega) hS
    have hRT := fun A c W hS => refTight_any l A c W (by omega) (fun x hx => by have := hm x hx; omega) hS
    have hPA := fun A c W (hB : Below w.heap.size w W) hS => pairs_any l A c W (hG.below hB) (by omega) (fun x hx => by have := hm x hx; omega) hS
    have hRP := fun A c W hS => refPairs_any l A c W (by omega) (fun x hx => by have := hm x hx; omega) hS
    have hplen : (Lx.pairsOf l).1.length ≤ 1000000 := by
      unfold Lx.pairsOf
      split
      · simp
      · have := Lx.pairsGo_len (l := l) l.length 0 [] []
        simp at this; omega
    unfold PairsRet at hPA hRP
    generalize (Lx.tightOf l).1 = t at *
    generalize (Lx.tightOf l).2 = te at *
    generalize (Lx.pairsOf l).1 = ps at *
    generalize (Lx.pairsOf l).2.1 = pn at *
    generalize (Lx.pairsOf l).2.2 = pe at *
    have HTI := Lib.hid hTI; have HRT := Lib.hid hRT; have HPA := Lib.hid hPA; have HRP := Lib.hid hRP
    have HSI := Lib.hid (fun v u B1 B2 W h1 h2 => sameInts_same ps v u B1 B2 W hplen h1 h2)
    have hst := str_eq t t
    rw [decide_eq_true rfl] at hst
    clear hTI hRT hPA hRP hG hz hm hsh
    go_enter Tryd.func5, Tryd.ntmps5
    go_wp2_with (first
      | (go_at_call 18; refine (HW.out w8 hBw8).mono ?_; rintro e w9 ⟨rfl, hB9⟩)
      | (go_at_call 33; refine (HSI.out _ _ _ _ w7 hr7 hs7).mono ?_; rintro e w8 ⟨rfl, hB8⟩; have hBw8 := hBw7.trans (hB8.mono hBw7.size))
      | (go_at_call 32; refine (HRP.out _ _ w6 htk6).mono ?_; rintro e w7 ⟨v7, rfl, hs7, hB7⟩; have hBw7 := hBw6.trans (hB7.mono hBw6.size); have hr7 := ownsRow_belowO hr6 hB7)
      | (go_at_call 31; refine (HPA.out _ _ w5 hBw5 hS5).mono ?_; rintro e w6 ⟨v6, rfl, hr6, hB6⟩; have hBw6 := hBw5.trans (hB6.mono hBw5.size); have htk6 := tksLaterT htk5 hB6)
      | (at_builtin; go_loud (refine wpList_clone_toks rfl _ _ rfl rfl _ _ l rfl htk4 hN (by omega) ?_); intro A5 c5 w5 hS5 hN5 hB5; have hBw5 := hBw4.trans (hB5.mono hBw4.size); have htk5 := tksLaterT htk4 hB5)
      | (go_at_call 30; refine (HRT.out _ _ w3 htk3).mono ?_; rintro e w4 ⟨rfl, hB4⟩; have hBw4 := hBw3.trans (hB4.mono hBw3.size); have htk4 := tksLaterT htk3 hB4)
      | (go_at_call 29; refine (HTI.out _ _ w2 hB2 hS2).mono ?_; rintro e w3 ⟨rfl, hB3⟩; have hBw3 := hB2.trans (hB3.mono hB2.size); have htk3 := tksLaterT htk2 hB3)
      | (at_builtin; go_loud (refine wpList_clone_toks rfl _ _ rfl rfl _ _ l rfl hS hN (by omega) ?_); intro A2 c2 w2 hS2 hN2 hB2; have htk2 := tksLaterT hS hB2)
      | (go_at_call 28; refine HF.out.mono ?_; rintro e w1 ⟨rfl, rfl⟩))
    go_ret
    exact ⟨rfl, hBw8.trans (hB9.mono hBw8.size)⟩

-- CALL: lawTights_any a0 A0 c0 W (by omega) (fun x hx => by have := hT0 x hx; omega) hS0 (fun e => by obtain ⟨h1, h2⟩ := hN0 e; exact ⟨h1, by rw [h2]; rfl⟩) (gv_of_laid hL)
namespace lexTights
set_option maxRecDepth 100000 in
theorem contract (H : Type) (enc : TypeId × Value → H) (W : World) (base : Nat) (args : Array Value) (ds gs : List (DataW H)) (before : List MemPlace)
    (hval : ∀ (j : Nat) t v, Tryd.f5.params[j]? = some t → args[j]? = some v → Value.okWide Tryd.prog W .any base t v)
    (hW : DataW.Whole enc Tryd.prog Tryd.f5.params.toList Rows.lexTightsSpec.vars false W args.toList ds gs before)
    (hwt : (DataW.weightsEach Tryd.prog (Tryd.f5.params.toList ++ (OpenSpec.ofChange Rows.lexTightsSpec).bare.plain.varTypes Tryd.prog) (ds ++ gs)).all (· ≤ reachBytes) = true)
    (hL : laidMetH Tryd.prog Rows.lexTightsRow.laid W) :
    Calls Tryd.prog 5 args W fun e W' => ∃ v, e = .returned v ∧ Rows.lexTightsSpec.post enc Tryd.prog Tryd.f5 false true false false W args v W' := by
  have hW' := hW
  obtain ⟨p, q, hA0, hV, rfl, hfz, hnd⟩ := hW
  have hA : DataW.TrodAll enc Tryd.prog W 0 (fun _ => true) true Tryd.f5.params.toList args.toList ds p := hA0
  rw [Tryd.params5] at hA hval hwt
  obtain ⟨v0, vs0, d0, ds0, p0, q0, hargs, rfl, rfl, h0, r0⟩ := trodAll_cons hA
  obtain ⟨rfl, rfl, rfl⟩ := trodAll_nil r0
  obtain rfl : args = #[v0] := by cases args; simp_all
  obtain ⟨rfl, rfl⟩ := trodVars_none hV
  have w0 := reach_of hwt 0 (d := d0) rfl rfl
  obtain ⟨A0, c0, a0, rfl, hS0, hT0, hl0, hN0⟩ := open_toks (hval 0 23 v0 rfl rfl) h0 w0
  clear hA0
  unfold reachBytes at *
  refine (lawTights_any a0 A0 c0 W (by omega) (fun x hx => by have := hT0 x hx; omega) hS0 (fun e => by obtain ⟨h1, h2⟩ := hN0 e; exact ⟨h1, by rw [h2]; rfl⟩) (gv_of_laid hL)).mono fun e W' ⟨he, hB⟩ => ?_
  subst he
  exact ⟨_, rfl, law_post hW' hB rfl rfl (by
    rw [Tryd.params5]
    exact (fun t ht => by
      simp only [List.mem_cons, List.not_mem_nil, or_false] at ht
      rcases ht with rfl <;> exact ⟨by kernel_rfl, of_decide_eq_true (by kernel_rfl)⟩)) rfl rfl rfl⟩

def wargs : Array Value := #[.slice none 0 0]
theorem reads (os : Os) {H : Type} (enc : TypeId × Value → H) : ∃ places, DataW.whole enc Tryd.prog ((laidWorld os #[]).forCall (fun _ _ => 0) ⟨#[], wargs, []⟩).memory Tryd.f5.params.toList Rows.lexTightsSpec.vars false wargs.toList 8 = some ([.nil], [], places) :=
  ⟨[], by kernel_rfl⟩

set_option maxRecDepth 100000 in
theorem lifted (os : Os) (started : os.Started) (H : Type) (enc : TypeId × Value → H) (F : Stop.Interp) :
    ReturnsInHanded {} Tryd.checked os 5 .any ((OpenSpec.ofChange Rows.lexTightsSpec).preRow enc Tryd.prog Tryd.f5 Rows.lexTightsRow.domain false Rows.lexTightsRow.laid) (((OpenSpec.ofChange Rows.lexTightsSpec).at F).post enc Tryd.prog Tryd.f5 false true false false) := by
  obtain ⟨places, hx⟩ := reads os enc
  refine returnsInHanded_of_row (C := Tryd.checked) (s := OpenSpec.ofChange Rows.lexTightsSpec) ownK started (by kernel_rfl) Tryd.func5
    (witness_row_at (enc := enc) (C := Tryd.checked) false (laidWorld os #[]) wargs rfl (varsK os wargs) (restK os wargs) (by kernel_rfl)
      (OpenSpec.preRow_of_cond 8 hx (by kernel_rfl) (fun k hk => by cases hk) (by kernel_rfl) (laid_metK os wargs))) ?_
  intro W base args ds gs before hval hW _ _ hwt hL _ _
  exact contract H enc W base args ds gs before hval hW hwt hL

theorem said : Rows.LexTightsSaid :=
  OpenClaim.holds_of_cond 5 Tryd.f5 rfl rfl rfl rfl rfl rfl rfl ⟨rfl, rfl, rfl, rfl, rfl⟩ rfl rfl rfl rfl rfl (by kernel_rfl) Tryd.func5 (by kernel_rfl)
    (of_decide_eq_true (by kernel_rfl)) (by unfold Func.isWrapper; first | (rw [if_pos (by decide +kernel)]; kernel_rfl) | (rw [if_neg (by decide +kernel)]; exact ⟨rfl, rfl⟩))
    (fun os started H enc _ F => by rw [OpenClaim.pre_eq_preRow]; exact lifted os started H enc F)

theorem plain (f : FuncId) (fn : Func) (hf : Tryd.pinned.checked.prog.funcNamed "riposte/ripostelaw01.LexTights" = some f) (hfn : Tryd.pinned.checked.prog.funcs[f]? = some fn) :
    true = Tryd.pinned.checked.prog.looks [] ∧ ∀ (j : Nat) t, fn.params[j]? = some t → Tryd.pinned.checked.prog.wantsStandIn t = false := by
  obtain rfl : f = 5 := Option.some.inj ((show Tryd.prog.funcNamed "riposte/ripostelaw01.LexTights" = some 5 by kernel_rfl).symm.trans hf) |>.symm
  obtain rfl : fn = Tryd.f5 := (Option.some.inj (Tryd.func5.symm.trans hfn)).symm
  refine ⟨by kernel_rfl, fun j t ht => ?_⟩
  rw [Tryd.params5] at ht
  exact (show ∀ t ∈ [23], Tryd.prog.wantsStandIn t = false by
    intro t ht
    simp only [List.mem_cons, List.not_mem_nil, or_false] at ht
    rcases ht with rfl <;> kernel_rfl) t (by simpa using Array.mem_of_getElem? ht)

theorem card : Rows.LexTightsCardSaid :=
  Claim7.holds_tied_plain_at .later [] _ _ _ _ said (fun _ h => by cases h) (by kernel_rfl) (fun _ h => by cases h) lexTights_row_tie rfl ⟨rfl, rfl⟩ (by kernel_rfl) rfl plain (by kernel_rfl)
end lexTights
end Go.Proofs.YtchkngabppmbkaaDoor
