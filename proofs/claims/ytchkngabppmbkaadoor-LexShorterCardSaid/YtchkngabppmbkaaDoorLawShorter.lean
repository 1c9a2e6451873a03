/-
  What is proved: the shortest text with the tokens of a text is not longer than it, and has these tokens (P1.10), at any text of at most 3000 bytes; at longer ones the examples hold. Conditions: the listed package-level variables begin as the program's text lays them (the card ties them).
-/
import Derived.Test.YtchkngabppmbkaaDoorLexZQ
import Derived.Test.YtchkngabppmbkaaDoorLexZS
import Derived.Test.YtchkngabppmbkaaDoorLexQ
import Derived.Test.YtchkngabppmbkaaDoorLexW
namespace Go.Proofs.YtchkngabppmbkaaDoor
open Go.ChangeShapes Go.WideShapes Go.ChangeAt Go.RowKit

set_option maxRecDepth 100000 in
set_option maxHeartbeats 4000000 in
theorem lawShorter_any (s : ByteArray) (w : World) (hs : s.size ≤ 281474976710656) (hG : GV w) :
    Calls Tryd.prog 12 #[.string s] w fun e w' => e = .returned (.bool true) ∧ Below w.heap.size w w' := by
  have HW := Lib.hid (fun W (hB : Below w.heap.size w W) => awake_any W (hG.below hB))
  by_cases h1 : s.size ≤ 3000
  · have d1 : decide ((s.size : Int) > 3000) = false := decide_eq_false (by omega)
    obtain ⟨er, her⟩ : ∃ er, (Lx.tokensOf s).2.2 = er := ⟨_, rfl⟩
    obtain ⟨L, hL⟩ : ∃ L, Lx.toksOf s = L := ⟨_, rfl⟩
    have HT1 := Lib.hid (tokens_err s hs w hG er her L hL)
    by_cases h0 : er = 0
    · subst h0
      obtain ⟨t1, t2⟩ := Lx.shorter her
      obtain ⟨u1, u2, _⟩ := Lx.tokens_tight t1
      rw [hL] at t1 t2 u1 u2
      have hlen : L.length ≤ 900 := by rw [← hL]; exact toksOf_lenS s
      have htx : ∀ x ∈ L, x.text.size ≤ 2500 := by rw [← hL]; exact toksOf_texts
      have HTI := Lib.hid (fun A c W (hB : Below w.heap.size w W) hS => tight_any L A c W (hG.below hB) (by omega) (fun x hx => by have := htx x hx; omega) hS)
      obtain ⟨t, ht⟩ : ∃ t, Lx.tightOf L = t := ⟨_, rfl⟩
      rw [ht] at t1 t2 u1 u2 HTI
      obtain ⟨t, te⟩ := t
      simp only at t1 t2 u1 u2
      subst t1
      obtain ⟨M, hM⟩ : ∃ M, Lx.toksOf t = M := ⟨_, rfl⟩
      have HT2 := Lib.hid (fun W (hB : Below w.heap.size w W) => tokens_err t (by omega) W (hG.below hB) 0 u1 M hM)
      have hlM : M.length ≤ 900 := by rw [← hM]; exact toksOf_lenS t
      rw [hM] at u2
      have HSB := Lib.hid (fun A C c d W hA hC => sameBut_any L M A C c d W (by omega) (by omega) hA hC)
      rw [decide_eq_true u2.symm] at HSB
      have q1 : decide ((t.size : Int) ≤ (s.size : Int)) = true := decide_eq_true (by omega)
      clear hL hM her u1 u2 htx ht hG
      go_enter Tryd.func12, Tryd.ntmps12
      go_wp2_with (first
        | (go_at_call 19; refine (HT2.out w3 hBw3).mono ?_; rintro e w4 ⟨ao2, cap2, at2, rfl, htk2, hn2, hB4⟩; have hBw4 := hBw3.trans (hB4.mono hBw3.size); have htk4 := tksLaterS htk3 hB4)
        | (go_at_call 19; refine HT1.out.mono ?_; rintro e w1 ⟨ao1, cap1, at1, rfl, htk1, hn1, hB1⟩)
        | (at_builtin; go_loud (refine wpList_clone_toks rfl _ _ rfl rfl _ _ L rfl htk1 hn1 (by omega) ?_); intro A2 c2 w2 hS2 hN2 hB2; have hBw2 := hB1.trans (hB2.mono hB1.size); have htk2 := tksLaterS htk1 hB2)
        | (go_at_call 29; refine (HTI.out _ _ w2 hBw2 hS2).mono ?_; rintro e w3 ⟨rfl, hB3⟩; have hBw3 := hBw2.trans (hB3.mono hBw2.size); have htk3 := tksLaterS htk2 hB3)
        | (go_at_call 48; refine (HSB.out _ _ _ _ w4 htk4 htk2).mono ?_; rintro e w5 ⟨rfl, hB5⟩; have hBw5 := hBw4.trans (hB5.mono hBw4.size))
        | (go_at_call 18; refine (HW.out w5 hBw5).mono ?_; rintro e w6 ⟨rfl, hB6⟩; have hBw6 := hBw5.trans (hB6.mono hBw5.size)))
      go_ret
      exact ⟨rfl, hBw6⟩
    · have h0' : ((er : Int) != 0) = true := by rw [bne_iff_ne]; omega
      clear hG hL her h0
      go_enter Tryd.func12, Tryd.ntmps12
      go_wp2_with (first
        | (go_at_call 19; refine HT1.out.mono ?_; rintro e w1 ⟨ao1, cap1, at1, rfl, htk1, hn1, hB1⟩)
        | (go_at_call 18; refine (HW.out w1 hB1).mono ?_; rintro e w6 ⟨rfl, hB6⟩; have hBw6 := hB1.trans (hB6.mono hB1.size)))
      go_ret
      exact ⟨rfl, hBw6⟩
  · have d1 : decide ((s.size : Int) > 3000) = true := decide_eq_true (by omega)
    go_enter Tryd.func12, Tryd.ntmps12
    go_wp2_with (go_at_call 18; refine (HW.out _ (Below.refl _ _)).mono ?_; rintro e w4 ⟨rfl, hB4⟩)
    go_ret
    exact ⟨rfl, hB4⟩

-- CALL: lawShorter_any a0 W (by omega) (gv_of_laid hL)
namespace lexShorter
set_option maxRecDepth 100000 in
theorem contract (H : Type) (enc : TypeId × Value → H) (W : World) (base : Nat) (args : Array Value) (ds gs : List (DataW H)) (before : List MemPlace)
    (hval : ∀ (j : Nat) t v, Tryd.f12.params[j]? = some t → args[j]? = some v → Value.okWide Tryd.prog W .any base t v)
    (hW : DataW.Whole enc Tryd.prog Tryd.f12.params.toList Rows.lexShorterSpec.vars false W args.toList ds gs before)
    (hwt : (DataW.weightsEach Tryd.prog (Tryd.f12.params.toList ++ (OpenSpec.ofChange Rows.lexShorterSpec).bare.plain.varTypes Tryd.prog) (ds ++ gs)).all (· ≤ reachBytes) = true)
    (hL : laidMetH Tryd.prog Rows.lexShorterRow.laid W) :
    Calls Tryd.prog 12 args W fun e W' => ∃ v, e = .returned v ∧ Rows.lexShorterSpec.post enc Tryd.prog Tryd.f12 false true false false W args v W' := by
  have hW' := hW
  obtain ⟨p, q, hA0, hV, rfl, hfz, hnd⟩ := hW
  have hA : DataW.TrodAll enc Tryd.prog W 0 (fun _ => true) true Tryd.f12.params.toList args.toList ds p := hA0
  rw [Tryd.params12] at hA hval hwt
  obtain ⟨v0, vs0, d0, ds0, p0, q0, hargs, rfl, rfl, h0, r0⟩ := trodAll_cons hA
  obtain ⟨rfl, rfl, rfl⟩ := trodAll_nil r0
  obtain rfl : args = #[v0] := by cases args; simp_all
  obtain ⟨rfl, rfl⟩ := trodVars_none hV
  have w0 := reach_of hwt 0 (d := d0) rfl rfl
  obtain ⟨a0, rfl, rfl, rfl, ha0⟩ := Go.ChangeMaps.open_string Tryd.underlying9 (hval 0 9 v0 rfl rfl) h0
  have s0 : a0.size ≤ reachBytes := by simpa using reach_string w0
  clear hA0
  unfold reachBytes at *
  refine (lawShorter_any a0 W (by omega) (gv_of_laid hL)).mono fun e W' ⟨he, hB⟩ => ?_
  subst he
  exact ⟨_, rfl, law_post hW' hB rfl rfl (by
    rw [Tryd.params12]
    exact (fun t ht => by
      simp only [List.mem_cons, List.not_mem_nil, or_false] at ht
      rcases ht with rfl <;> exact ⟨by kernel_rfl, of_decide_eq_true (by kernel_rfl)⟩)) rfl rfl rfl⟩

def wargs : Array Value := #[.string ⟨#[]⟩]
theorem reads (os : Os) {H : Type} (enc : TypeId × Value → H) : ∃ places, DataW.whole enc Tryd.prog ((laidWorld os #[]).forCall (fun _ _ => 0) ⟨#[], wargs, []⟩).memory Tryd.f12.params.toList Rows.lexShorterSpec.vars false wargs.toList 8 = some ([.lit (.string [])], [], places) :=
  ⟨[], by kernel_rfl⟩

set_option maxRecDepth 100000 in
theorem lifted (os : Os) (started : os.Started) (H : Type) (enc : TypeId × Value → H) (F : Stop.Interp) :
    ReturnsInHanded {} Tryd.checked os 12 .any ((OpenSpec.ofChange Rows.lexShorterSpec).preRow enc Tryd.prog Tryd.f12 Rows.lexShorterRow.domain false Rows.lexShorterRow.laid) (((OpenSpec.ofChange Rows.lexShorterSpec).at F).post enc Tryd.prog Tryd.f12 false true false false) := by
  obtain ⟨places, hx⟩ := reads os enc
  refine returnsInHanded_of_row (C := Tryd.checked) (s := OpenSpec.ofChange Rows.lexShorterSpec) ownK started (by kernel_rfl) Tryd.func12
    (witness_row_at (enc := enc) (C := Tryd.checked) false (laidWorld os #[]) wargs rfl (varsK os wargs) (restK os wargs) (by kernel_rfl)
      (OpenSpec.preRow_of_cond 8 hx (by kernel_rfl) (fun k hk => by cases hk) (by kernel_rfl) (laid_metK os wargs))) ?_
  intro W base args ds gs before hval hW _ _ hwt hL _ _
  exact contract H enc W base args ds gs before hval hW hwt hL

theorem said : Rows.LexShorterSaid :=
  OpenClaim.holds_of_cond 12 Tryd.f12 rfl rfl rfl rfl rfl rfl rfl ⟨rfl, rfl, rfl, rfl, rfl⟩ rfl rfl rfl rfl rfl (by kernel_rfl) Tryd.func12 (by kernel_rfl)
    (of_decide_eq_true (by kernel_rfl)) (by unfold Func.isWrapper; first | (rw [if_pos (by decide +kernel)]; kernel_rfl) | (rw [if_neg (by decide +kernel)]; exact ⟨rfl, rfl⟩))
    (fun os started H enc _ F => by rw [OpenClaim.pre_eq_preRow]; exact lifted os started H enc F)

theorem plain (f : FuncId) (fn : Func) (hf : Tryd.pinned.checked.prog.funcNamed "riposte/ripostelaw01.LexShorter" = some f) (hfn : Tryd.pinned.checked.prog.funcs[f]? = some fn) :
    true = Tryd.pinned.checked.prog.looks [] ∧ ∀ (j : Nat) t, fn.params[j]? = some t → Tryd.pinned.checked.prog.wantsStandIn t = false := by
  obtain rfl : f = 12 := Option.some.inj ((show Tryd.prog.funcNamed "riposte/ripostelaw01.LexShorter" = some 12 by kernel_rfl).symm.trans hf) |>.symm
  obtain rfl : fn = Tryd.f12 := (Option.some.inj (Tryd.func12.symm.trans hfn)).symm
  refine ⟨by kernel_rfl, fun j t ht => ?_⟩
  rw [Tryd.params12] at ht
  exact (show ∀ t ∈ [9], Tryd.prog.wantsStandIn t = false by
    intro t ht
    simp only [List.mem_cons, List.not_mem_nil, or_false] at ht
    rcases ht with rfl <;> kernel_rfl) t (by simpa using Array.mem_of_getElem? ht)

theorem card : Rows.LexShorterCardSaid :=
  Claim7.holds_tied_plain_at .later [] _ _ _ _ said (fun _ h => by cases h) (by kernel_rfl) (fun _ h => by cases h) lexShorter_row_tie rfl ⟨rfl, rfl⟩ (by kernel_rfl) rfl plain (by kernel_rfl)
end lexShorter
end Go.Proofs.YtchkngabppmbkaaDoor
