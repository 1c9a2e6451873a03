/-
  What is proved: lex.Apply, lex.Moved and lex.Undo answer as the reference does (P1.5, P1.6), at any text of at most 3000 bytes, any place and any splices whose texts have at most 3000 bytes together; at others the examples hold. Conditions: the listed package-level variables begin as the program's text lays them (the card ties them).
-/
import Derived.Test.YtlkhlemafkfcbaaDoorLexZC
import Derived.Test.YtlkhlemafkfcbaaDoorLexQ
import Derived.Test.YtlkhlemafkfcbaaDoorLexW
namespace Go.Proofs.YtlkhlemafkfcbaaDoor
open Go.ChangeShapes Go.WideShapes Go.ChangeAt Go.RowKit

theorem Spls.later {w w' : World} {A : Option Addr} {l : List Lx.Spl} (h : Spls w w.heap.size A l) (hB : Below w.heap.size w w') : Spls w' w'.heap.size A l := fun hn => by
  obtain ⟨b, off, h1, h2, h3⟩ := h.below hB hn
  exact ⟨b, off, h1, Nat.lt_of_lt_of_le h2 hB.size, h3⟩

set_option maxRecDepth 100000 in
set_option maxHeartbeats 4000000 in
theorem splices_main (s : ByteArray) (l : List Lx.Spl) (p : Int) (A : Option Addr) (c : Nat) (w : World) (hs : s.size ≤ 3000) (hf : Lx.fewOf l = true) (hS : Spls w w.heap.size A l) (hN : NilOk A c l.length) (hG : GV w) :
    Calls Tryd.prog 6 #[.string s, .slice A l.length c, .int .i64 p] w fun e w' => e = .returned (.bool true) ∧ Below w.heap.size w w' := by
  have HW := Lib.hid (fun W (hB : Below w.heap.size w W) => awake_any W (hG.below hB))
  obtain ⟨hm, hl⟩ := Lx.fewOf_mem hf
  have HF := Lib.hid (few_any l A c w (by omega) (fun x hx => by have := hm x hx; omega) hS)
  rw [hf] at HF
  have htx : ∀ x ∈ l, x.text.size ≤ 1099511627776 := fun x hx => by have := hm x hx; omega
  have HA := Lib.hid (fun A c W hS => apply_any s l A c W (by omega) (by omega) htx hS)
  have HU := Lib.hid (fun A c W hS => undo_any s l A c W (by omega) (by omega) htx hS)
  have HM := Lib.hid (fun A c W hS => moved_any s l p A c W (by omega) (by omega) htx hS)
  have HA2 := Lib.hid (fun A c W hS => refApply_any s l A c W (by omega) (by omega) htx hS)
  have HU2 := Lib.hid (fun A c W hS => refUndo_any s l A c W (by omega) (by omega) htx hS)
  have HM2 := Lib.hid (fun A c W hS => refMoved_any s l p A c W (by omega) (by omega) htx hS)
  have hul : (Lx.undoOf s l).1.length ≤ 1152921504606846976 := by
    unfold Lx.undoOf
    split
    · simp
    · rw [List.length_map, Lx.chgs_length]; omega
  have HS := Lib.hid (fun A C c d W => sameSplices_any (Lx.undoOf s l).1 (Lx.undoOf s l).1 A C c d W hul hul)
  have d1 : decide ((s.size : Int) > 3000) = false := decide_eq_false (by omega)
  have hbs := str_eq (Lx.applyOf s l).1 (Lx.applyOf s l).1
  rw [decide_eq_true rfl] at hbs
  clear hm hf htx hul hG
  generalize Lx.applyOf s l = R1 at *
  generalize Lx.undoOf s l = R2 at *
  generalize Lx.movedOf s l p = R3 at *
  go_enter Tryd.func6, Tryd.ntmps6
  go_wp2_with (first
    | (go_at_call 34; refine HF.out.mono ?_; rintro e w1 ⟨rfl, rfl⟩)
    | (go_at_call 35; refine (HA.out _ _ w2 hS2).mono ?_; rintro e w3 ⟨rfl, hB3⟩; have hB13 := hB2.trans (hB3.mono hB2.size); have hL3 := hS.later hB13)
    | (go_at_call 36; refine (HA2.out _ _ w3 hL3).mono ?_; rintro e w4 ⟨rfl, hB4⟩; have hB14 := hB13.trans (hB4.mono hB13.size); have hL4 := hL3.later hB4)
    | (go_at_call 37; refine (HM.out _ _ w5 hS5).mono ?_; rintro e w6 ⟨rfl, hB6⟩; have hB16 := hB15.trans (hB6.mono hB15.size); have hL6 := hL5.later hB6)
    | (go_at_call 38; refine (HM2.out _ _ w6 hL6).mono ?_; rintro e w7 ⟨rfl, hB7⟩; have hB17 := hB16.trans (hB7.mono hB16.size); have hL7 := hL6.later hB7)
    | (go_at_call 39; refine (HU.out _ _ w8 hS8).mono ?_; rintro e w9 ⟨D, cd, rfl, hU9, hB9, -⟩; have hB19 := hB18.trans (hB9.mono hB18.size); have hL9 := hL8.later hB9)
    | (go_at_call 40; refine (HU2.out _ _ w9 hL9).mono ?_; rintro e w10 ⟨E, ce, rfl, hE10, hB10, -⟩; have hB110 := hB19.trans (hB10.mono hB19.size); have hD10 := hU9.later hB10)
    | (go_at_call 41; refine (HS.out _ _ _ _ w10 hD10 hE10).mono ?_; rintro e w11 ⟨rfl, hB11⟩; have hB111 := hB110.trans (hB11.mono hB110.size))
    | (go_at_call 18; refine (HW.out w11 hB111).mono ?_; rintro e w12 ⟨rfl, hB12⟩; have hB112 := hB111.trans (hB12.mono hB111.size))
    | (at_builtin; go_loud (refine wpList_clone_spls rfl _ _ rfl rfl _ _ l rfl hL7 hN (by omega) ?_); intro A8 c8 w8 hS8 hN8 hB8; have hB18 := hB17.trans (hB8.mono hB17.size); have hL8 := hL7.later hB8)
    | (at_builtin; go_loud (refine wpList_clone_spls rfl _ _ rfl rfl _ _ l rfl hL4 hN (by omega) ?_); intro A5 c5 w5 hS5 hN5 hB5; have hB15 := hB14.trans (hB5.mono hB14.size); have hL5 := hL4.later hB5)
    | (at_builtin; go_loud (refine wpList_clone_spls rfl _ _ rfl rfl _ _ l rfl hS hN (by omega) ?_); intro A2 c2 w2 hS2 hN2 hB2))
  go_ret
  exact ⟨rfl, hB112⟩

set_option maxRecDepth 100000 in
set_option maxHeartbeats 4000000 in
theorem lawSplices_any (s : ByteArray) (l : List Lx.Spl) (p : Int) (A : Option Addr) (c : Nat) (w : World) (hs : s.size ≤ 281474976710656) (hl : l.length ≤ 1152921504606846976) (ht : ∀ x ∈ l, x.text.size ≤ 281474976710656) (hS : Spls w w.heap.size A l) (hN : NilOk A c l.length) (hG : GV w) :
    Calls Tryd.prog 6 #[.string s, .slice A l.length c, .int .i64 p] w fun e w' => e = .returned (.bool true) ∧ Below w.heap.size w w' := by
  have HW := Lib.hid (fun W (hB : Below w.heap.size w W) => awake_any W (hG.below hB))
  have HF := Lib.hid (few_any l A c w hl ht hS)
  by_cases h1 : s.size ≤ 3000
  · have d1 : decide ((s.size : Int) > 3000) = false := decide_eq_false (by omega)
    cases hf : Lx.fewOf l
    · rw [hf] at HF
      go_enter Tryd.func6, Tryd.ntmps6
      go_wp2_with (first
        | (go_at_call 34; refine HF.out.mono ?_; rintro e w1 ⟨rfl, rfl⟩)
        | (go_at_call 18; refine (HW.out w (Below.refl _ _)).mono ?_; rintro e w9 ⟨rfl, hB9⟩))
      go_ret
      exact ⟨rfl, hB9⟩
    · exact splices_main s l p A c w h1 hf hS hN hG
  · have d1 : decide ((s.size : Int) > 3000) = true := decide_eq_true (by omega)
    go_enter Tryd.func6, Tryd.ntmps6
    go_wp2_with (go_at_call 18; refine (HW.out w (Below.refl _ _)).mono ?_; rintro e w4 ⟨rfl, hB4⟩)
    go_ret
    exact ⟨rfl, hB4⟩

-- CALL: lawSplices_any a0 a1 a2 A1 c1 W (by omega) (by omega) (fun x hx => by have := hT1 x hx; omega) hS1 (fun e => by obtain ⟨h1, h2⟩ := hN1 e; exact ⟨h1, by rw [h2]; rfl⟩) (gv_of_laid hL)
namespace lexSplices
set_option maxRecDepth 100000 in
theorem contract (H : Type) (enc : TypeId × Value → H) (W : World) (base : Nat) (args : Array Value) (ds gs : List (DataW H)) (before : List MemPlace)
    (hval : ∀ (j : Nat) t v, Tryd.f6.params[j]? = some t → args[j]? = some v → Value.okWide Tryd.prog W .any base t v)
    (hW : DataW.Whole enc Tryd.prog Tryd.f6.params.toList Rows.lexSplicesSpec.vars false W args.toList ds gs before)
    (hwt : (DataW.weightsEach Tryd.prog (Tryd.f6.params.toList ++ (OpenSpec.ofChange Rows.lexSplicesSpec).bare.plain.varTypes Tryd.prog) (ds ++ gs)).all (· ≤ reachBytes) = true)
    (hL : laidMetH Tryd.prog Rows.lexSplicesRow.laid W) :
    Calls Tryd.prog 6 args W fun e W' => ∃ v, e = .returned v ∧ Rows.lexSplicesSpec.post enc Tryd.prog Tryd.f6 false true false false W args v W' := by
  have hW' := hW
  obtain ⟨p, q, hA0, hV, rfl, hfz, hnd⟩ := hW
  have hA : DataW.TrodAll enc Tryd.prog W 0 (fun _ => true) true Tryd.f6.params.toList args.toList ds p := hA0
  rw [Tryd.params6] at hA hval hwt
  obtain ⟨v0, vs0, d0, ds0, p0, q0, hargs, rfl, rfl, h0, r0⟩ := trodAll_cons hA
  obtain ⟨v1, vs1, d1, ds1, p1, q1, rfl, rfl, rfl, h1, r1⟩ := trodAll_cons r0
  obtain ⟨v2, vs2, d2, ds2, p2, q2, rfl, rfl, rfl, h2, r2⟩ := trodAll_cons r1
  obtain ⟨rfl, rfl, rfl⟩ := trodAll_nil r2
  obtain rfl : args = #[v0, v1, v2] := by cases args; simp_all
  obtain ⟨rfl, rfl⟩ := trodVars_none hV
  have w0 := reach_of hwt 0 (d := d0) rfl rfl
  obtain ⟨a0, rfl, rfl, rfl, ha0⟩ := Go.ChangeMaps.open_string Tryd.underlying9 (hval 0 9 v0 rfl rfl) h0
  have s0 : a0.size ≤ reachBytes := by simpa using reach_string w0
  have w1 := reach_of hwt 1 (d := d1) rfl rfl
  obtain ⟨A1, c1, a1, rfl, hS1, hT1, hl1, hN1⟩ := open_spls (hval 1 45 v1 rfl rfl) h1 w1
  have w2 := reach_of hwt 2 (d := d2) rfl rfl
  obtain ⟨a2, rfl, rfl, rfl, ha2⟩ := open_int Tryd.underlying3 (hval 2 3 v2 rfl rfl) h2
  clear hA0
  unfold reachBytes at *
  refine (lawSplices_any a0 a1 a2 A1 c1 W (by omega) (by omega) (fun x hx => by have := hT1 x hx; omega) hS1 (fun e => by obtain ⟨h1, h2⟩ := hN1 e; exact ⟨h1, by rw [h2]; rfl⟩) (gv_of_laid hL)).mono fun e W' ⟨he, hB⟩ => ?_
  subst he
  exact ⟨_, rfl, law_post hW' hB rfl rfl (by
    rw [Tryd.params6]
    exact (fun t ht => by
      simp only [List.mem_cons, List.not_mem_nil, or_false] at ht
      rcases ht with rfl | rfl | rfl <;> exact ⟨by kernel_rfl, of_decide_eq_true (by kernel_rfl)⟩)) rfl rfl rfl⟩

def wargs : Array Value := #[.string ⟨#[]⟩, .slice none 0 0, .int .i64 0]
theorem reads (os : Os) {H : Type} (enc : TypeId × Value → H) : ∃ places, DataW.whole enc Tryd.prog ((laidWorld os #[]).forCall (fun _ _ => 0) ⟨#[], wargs, []⟩).memory Tryd.f6.params.toList Rows.lexSplicesSpec.vars false wargs.toList 8 = some ([.lit (.string []), .nil, .lit (.int .i64 0)], [], places) :=
  ⟨[], by kernel_rfl⟩

set_option maxRecDepth 100000 in
theorem lifted (os : Os) (started : os.Started) (H : Type) (enc : TypeId × Value → H) (F : Stop.Interp) :
    ReturnsInHanded {} Tryd.checked os 6 .any ((OpenSpec.ofChange Rows.lexSplicesSpec).preRow enc Tryd.prog Tryd.f6 Rows.lexSplicesRow.domain false Rows.lexSplicesRow.laid) (((OpenSpec.ofChange Rows.lexSplicesSpec).at F).post enc Tryd.prog Tryd.f6 false true false false) := by
  obtain ⟨places, hx⟩ := reads os enc
  refine returnsInHanded_of_row (C := Tryd.checked) (s := OpenSpec.ofChange Rows.lexSplicesSpec) ownK started (by kernel_rfl) Tryd.func6
    (witness_row_at (enc := enc) (C := Tryd.checked) false (laidWorld os #[]) wargs rfl (varsK os wargs) (restK os wargs) (by kernel_rfl)
      (OpenSpec.preRow_of_cond 8 hx (by kernel_rfl) (fun k hk => by cases hk) (by kernel_rfl) (laid_metK os wargs))) ?_
  intro W base args ds gs before hval hW _ _ hwt hL _ _
  exact contract H enc W base args ds gs before hval hW hwt hL

theorem said : Rows.LexSplicesSaid :=
  OpenClaim.holds_of_cond 6 Tryd.f6 rfl rfl rfl rfl rfl rfl rfl ⟨rfl, rfl, rfl, rfl, rfl⟩ rfl rfl rfl rfl rfl (by kernel_rfl) Tryd.func6 (by kernel_rfl)
    (of_decide_eq_true (by kernel_rfl)) (by unfold Func.isWrapper; first | (rw [if_pos (by decide +kernel)]; kernel_rfl) | (rw [if_neg (by decide +kernel)]; exact ⟨rfl, rfl⟩))
    (fun os started H enc _ F => by rw [OpenClaim.pre_eq_preRow]; exact lifted os started H enc F)

theorem plain (f : FuncId) (fn : Func) (hf : Tryd.pinned.checked.prog.funcNamed "riposte/ripostelaw01.LexSplices" = some f) (hfn : Tryd.pinned.checked.prog.funcs[f]? = some fn) :
    true = Tryd.pinned.checked.prog.looks [] ∧ ∀ (j : Nat) t, fn.params[j]? = some t → Tryd.pinned.checked.prog.wantsStandIn t = false := by
  obtain rfl : f = 6 := Option.some.inj ((show Tryd.prog.funcNamed "riposte/ripostelaw01.LexSplices" = some 6 by kernel_rfl).symm.trans hf) |>.symm
  obtain rfl : fn = Tryd.f6 := (Option.some.inj (Tryd.func6.symm.trans hfn)).symm
  refine ⟨by kernel_rfl, fun j t ht => ?_⟩
  rw [Tryd.params6] at ht
  exact (show ∀ t ∈ [9, 45, 3], Tryd.prog.wantsStandIn t = false by
    intro t ht
    simp only [List.mem_cons, List.not_mem_nil, or_false] at ht
    rcases ht with rfl | rfl | rfl <;> kernel_rfl) t (by simpa using Array.mem_of_getElem? ht)

theorem card : Rows.LexSplicesCardSaid :=
  Claim7.holds_tied_plain_at .later [] _ _ _ _ said (fun _ h => by cases h) (by kernel_rfl) (fun _ h => by cases h) lexSplices_row_tie rfl ⟨rfl, rfl⟩ (by kernel_rfl) rfl plain (by kernel_rfl)
end lexSplices
end Go.Proofs.YtlkhlemafkfcbaaDoor
