/-
  What is proved: what lex.Diff says leads from one text to another does so, and the other way round it is what leads back (P1.14), at any two texts of at most 3000 bytes; at longer ones the examples hold. Conditions: the listed package-level variables begin as the program's text lays them (the card ties them).
-/
import Derived.Test.YtlkhlemafkfcbaaDoorLexX
import Derived.Test.YtlkhlemafkfcbaaDoorLexY
import Derived.Test.YtlkhlemafkfcbaaDoorLexQ
import Derived.Test.YtlkhlemafkfcbaaDoorLexW
import Derived.Test.YtlkhlemafkfcbaaDoorSpecJ
namespace Go.Proofs.YtlkhlemafkfcbaaDoor
open Go.ChangeShapes Go.WideShapes Go.ChangeAt Go.RowKit

theorem Spls.later {w w' : World} {A : Option Addr} {l : List Lx.Spl} (h : Spls w w.heap.size A l) (hB : Below w.heap.size w w') : Spls w' w'.heap.size A l := fun hn => by
  obtain ⟨b, off, h1, h2, h3⟩ := h.below hB hn
  exact ⟨b, off, h1, Nat.lt_of_lt_of_le h2 hB.size, h3⟩
theorem diffOf_len (a b : ByteArray) : (Lx.diffOf a b).1.length ≤ 1 := by unfold Lx.diffOf; (repeat' split) <;> simp
theorem diffOf_text (a b : ByteArray) (h : (Lx.diffOf a b).2 = 0) : ∀ x ∈ (Lx.diffOf a b).1, x.text.size ≤ 2500 := fun x hx => by
  obtain ⟨_, hb, hc⟩ := Lx.diffOf_ok h
  have := Lx.textErr_le hb
  rcases hc with ⟨_, e⟩ | ⟨_, e⟩
  · rw [e] at hx; cases hx
  · rw [e, List.mem_singleton] at hx
    subst hx
    unfold Lx.diffSpl
    simp only
    rw [ByteArray.size_extract]; omega

set_option maxRecDepth 100000 in
set_option maxHeartbeats 4000000 in
theorem lawDifference_any (a b : ByteArray) (w : World) (ha : a.size ≤ 281474976710656) (hb : b.size ≤ 281474976710656) (hG : GV w) :
    Calls Tryd.prog 16 #[.string a, .string b] w fun e w' => e = .returned (.bool true) ∧ Below w.heap.size w w' := by
  have HW := Lib.hid (fun W (hB : Below w.heap.size w W) => awake_any W (hG.below hB))
  have HD := Lib.hid (diff_any a b w ha hb)
  by_cases h1 : a.size ≤ 3000
  · by_cases h2 : b.size ≤ 3000
    · have d1 : decide ((a.size : Int) > 3000) = false := decide_eq_false (by omega)
      have d2 : decide ((b.size : Int) > 3000) = false := decide_eq_false (by omega)
      have hlen := diffOf_len a b
      by_cases h0 : (Lx.diffOf a b).2 = 0
      · have happ := (Lx.difference h0).1
        have hund := (Lx.difference h0).2
        have hbk := Lx.diffOf_back h0
        have htx := diffOf_text a b h0
        have hlen2 := diffOf_len b a
        have HD2 := Lib.hid (fun W => diff_any b a W hb ha)
        have HA := Lib.hid (fun A c W hS => apply_any a (Lx.diffOf a b).1 A c W ha (by omega) (fun x hx => by have := htx x hx; omega) hS)
        have HU := Lib.hid (fun A c W hS => undo_any a (Lx.diffOf a b).1 A c W ha (by omega) (fun x hx => by have := htx x hx; omega) hS)
        rw [happ] at HA
        rw [hund] at HU
        have hll : (Lx.diffOf a b).1.length = (Lx.diffOf b a).1.length := by
          have := (Lx.undo_back (by rw [happ] : (Lx.applyOf a (Lx.diffOf a b).1).2 = 0)).2.2.1
          rw [hund] at this; exact this.symm
        obtain ⟨R, hR⟩ : ∃ R, (Lx.diffOf a b) = R := ⟨_, rfl⟩
        obtain ⟨R2, hR2⟩ : ∃ R2, (Lx.diffOf b a) = R2 := ⟨_, rfl⟩
        rw [hR] at HD HA HU hlen h0 hll
        rw [hR2] at HD2 HU hlen2 hbk hll
        obtain ⟨l, e⟩ := R
        obtain ⟨m, f⟩ := R2
        simp only at hlen hlen2 h0 hbk hll
        subst h0 hbk
        have hne : ((l.length : Int) != (m.length : Int)) = false := by rw [bne_eq_false_iff_eq]; omega
        clear happ hund htx hR hR2 hll
        go_enter Tryd.func16, Tryd.ntmps16
        go_wp2_with (first
          | (go_at_call 42; refine (HD2.out w7).mono ?_; rintro e w8 ⟨E, ce, rfl, hE, hB8, hNE⟩; have hB18 := hB17.trans (hB8.mono hB17.size); have hD8 := hD7.later hB8)
          | (go_at_call 42; refine HD.out.mono ?_; rintro e w1 ⟨A, c, rfl, hA, hB1, hNA⟩)
          | (go_at_call 35; refine (HA.out _ _ w2 hS2).mono ?_; rintro e w3 ⟨rfl, hB3⟩; have hB13 := hB12.trans (hB3.mono hB12.size); have hA3 := hA2.later hB3)
          | (go_at_call 39; refine (HU.out _ _ w6 hS6).mono ?_; rintro e w7 ⟨D, cd, rfl, hD7, hB7, hND⟩; have hB17 := hB16.trans (hB7.mono hB16.size))
          | (at_builtin; go_loud (refine wpList_clone_spls rfl _ _ rfl rfl _ _ l rfl hA3 hNA (by omega) ?_); intro A6 c6 w6 hS6 hN6 hB6; have hB16 := hB13.trans (hB6.mono hB13.size))
          | (at_builtin; go_loud (refine wpList_clone_spls rfl _ _ rfl rfl _ _ l rfl hA hNA (by omega) ?_); intro A2 c2 w2 hS2 hN2 hB2; have hB12 := hB1.trans (hB2.mono hB1.size); have hA2 := hA.later hB2))
        have qn := run_neq_spl
        have qg : ∀ (x y : Operand) (xs ys : Array Value) (w : World), (eqGuard .neq 56 x y (.agg xs) (.agg ys)).run Tryd.prog w = .ok () w := fun x y xs ys w => run_eqGuard_agg w _ _ x y xs ys (by kernel_rfl)
        have HD8 := Lib.hid hD8; have HE8 := Lib.hid hE
        clear hD8 hE hA hA2 hA3 hS2 hS6 hD7 hNA hN2 hN6 hND hNE
        go_loopw [13] (fun i wr => ∃ k : Nat, k ≤ m.length ∧ i = .int .i64 k ∧ Below w8.heap.size w8 wr) (fun i _ => m.length - (intOf i).toNat)
        case atStart => exact ⟨0, Nat.zero_le _, rfl, Below.refl _ _⟩
        case round =>
          obtain ⟨k, hk, rfl, hB⟩ := hrel
          by_cases hlt : k < m.length
          · have hne1 : m ≠ [] := by intro e; subst e; simp at hlt
            obtain ⟨b1, off1, rfl, hb1, hc1⟩ := HD8.out.below hB hne1
            obtain ⟨b2, off2, rfl, hb2, hc2⟩ := HE8.out.below hB hne1
            obtain ⟨x, hx⟩ : ∃ x, m[k]? = some x := ⟨_, List.getElem?_eq_getElem hlt⟩
            obtain ⟨x1, x2, x3⟩ := hc1 k x hx
            obtain ⟨y1, y2, y3⟩ := hc2 k x hx
            have hq : splEq x.lo x.lo x.hi x.hi x.text x.text = true := by simp [splEq]
            clear hc1 hc2 hx hne1
            go_wp2
            go_region
            go_wp2
            go_roundw
            case rel => exact ⟨k + 1, by omega, by go_num, hB.drew⟩
            case measure => simp [intOf]; omega
          · obtain rfl : k = m.length := by omega
            have hB1r := hB18.trans (hB.mono hB18.size)
            go_wp2_with (go_at_call 18; refine (HW.out wr hB1r).mono ?_; rintro e w9 ⟨rfl, hB9⟩)
            go_ret
            exact ⟨rfl, hB1r.trans (hB9.mono hB1r.size)⟩
      · have h0' : (((Lx.diffOf a b).2 : Int) != 0) = true := by rw [bne_iff_ne]; omega
        generalize (Lx.diffOf a b) = R at *
        clear h0
        go_enter Tryd.func16, Tryd.ntmps16
        go_wp2_with (first
          | (go_at_call 42; refine HD.out.mono ?_; rintro e w1 ⟨A, c, rfl, hA, hB1, -⟩)
          | (go_at_call 18; refine (HW.out w1 hB1).mono ?_; rintro e w4 ⟨rfl, hB4⟩; have hB14 := hB1.trans (hB4.mono hB1.size)))
        go_ret
        exact ⟨rfl, hB14⟩
    · have d1 : decide ((a.size : Int) > 3000) = false := decide_eq_false (by omega)
      have d2 : decide ((b.size : Int) > 3000) = true := decide_eq_true (by omega)
      go_enter Tryd.func16, Tryd.ntmps16
      go_wp2_with (go_at_call 18; refine (HW.out w (Below.refl _ _)).mono ?_; rintro e w4 ⟨rfl, hB4⟩)
      go_ret
      exact ⟨rfl, hB4⟩
  · have d1 : decide ((a.size : Int) > 3000) = true := decide_eq_true (by omega)
    go_enter Tryd.func16, Tryd.ntmps16
    go_wp2_with (go_at_call 18; refine (HW.out w (Below.refl _ _)).mono ?_; rintro e w4 ⟨rfl, hB4⟩)
    go_ret
    exact ⟨rfl, hB4⟩

-- CALL: lawDifference_any a0 a1 W (by omega) (by omega) (gv_of_laid hL)
namespace lexDifference
set_option maxRecDepth 100000 in
theorem contract (H : Type) (enc : TypeId × Value → H) (W : World) (base : Nat) (args : Array Value) (ds gs : List (DataW H)) (before : List MemPlace)
    (hval : ∀ (j : Nat) t v, Tryd.f16.params[j]? = some t → args[j]? = some v → Value.okWide Tryd.prog W .any base t v)
    (hW : DataW.Whole enc Tryd.prog Tryd.f16.params.toList Rows.lexDifferenceSpec.vars false W args.toList ds gs before)
    (hwt : (DataW.weightsEach Tryd.prog (Tryd.f16.params.toList ++ (OpenSpec.ofChange Rows.lexDifferenceSpec).bare.plain.varTypes Tryd.prog) (ds ++ gs)).all (· ≤ reachBytes) = true)
    (hL : laidMetH Tryd.prog Rows.lexDifferenceRow.laid W) :
    Calls Tryd.prog 16 args W fun e W' => ∃ v, e = .returned v ∧ Rows.lexDifferenceSpec.post enc Tryd.prog Tryd.f16 false true false false W args v W' := by
  have hW' := hW
  obtain ⟨p, q, hA0, hV, rfl, hfz, hnd⟩ := hW
  have hA : DataW.TrodAll enc Tryd.prog W 0 (fun _ => true) true Tryd.f16.params.toList args.toList ds p := hA0
  rw [Tryd.params16] at hA hval hwt
  obtain ⟨v0, vs0, d0, ds0, p0, q0, hargs, rfl, rfl, h0, r0⟩ := trodAll_cons hA
  obtain ⟨v1, vs1, d1, ds1, p1, q1, rfl, rfl, rfl, h1, r1⟩ := trodAll_cons r0
  obtain ⟨rfl, rfl, rfl⟩ := trodAll_nil r1
  obtain rfl : args = #[v0, v1] := by cases args; simp_all
  obtain ⟨rfl, rfl⟩ := trodVars_none hV
  have w0 := reach_of hwt 0 (d := d0) rfl rfl
  obtain ⟨a0, rfl, rfl, rfl, ha0⟩ := Go.ChangeMaps.open_string Tryd.underlying9 (hval 0 9 v0 rfl rfl) h0
  have s0 : a0.size ≤ reachBytes := by simpa using reach_string w0
  have w1 := reach_of hwt 1 (d := d1) rfl rfl
  obtain ⟨a1, rfl, rfl, rfl, ha1⟩ := Go.ChangeMaps.open_string Tryd.underlying9 (hval 1 9 v1 rfl rfl) h1
  have s1 : a1.size ≤ reachBytes := by simpa using reach_string w1
  clear hA0
  unfold reachBytes at *
  refine (lawDifference_any a0 a1 W (by omega) (by omega) (gv_of_laid hL)).mono fun e W' ⟨he, hB⟩ => ?_
  subst he
  exact ⟨_, rfl, law_post hW' hB rfl rfl (by
    rw [Tryd.params16]
    exact (fun t ht => by
      simp only [List.mem_cons, List.not_mem_nil, or_false] at ht
      rcases ht with rfl | rfl <;> exact ⟨by kernel_rfl, of_decide_eq_true (by kernel_rfl)⟩)) rfl rfl rfl⟩

def wargs : Array Value := #[.string ⟨#[]⟩, .string ⟨#[]⟩]
theorem reads (os : Os) {H : Type} (enc : TypeId × Value → H) : ∃ places, DataW.whole enc Tryd.prog ((laidWorld os #[]).forCall (fun _ _ => 0) ⟨#[], wargs, []⟩).memory Tryd.f16.params.toList Rows.lexDifferenceSpec.vars false wargs.toList 8 = some ([.lit (.string []), .lit (.string [])], [], places) :=
  ⟨[], by kernel_rfl⟩

set_option maxRecDepth 100000 in
theorem lifted (os : Os) (started : os.Started) (H : Type) (enc : TypeId × Value → H) (F : Stop.Interp) :
    ReturnsInHanded {} Tryd.checked os 16 .any ((OpenSpec.ofChange Rows.lexDifferenceSpec).preRow enc Tryd.prog Tryd.f16 Rows.lexDifferenceRow.domain false Rows.lexDifferenceRow.laid) (((OpenSpec.ofChange Rows.lexDifferenceSpec).at F).post enc Tryd.prog Tryd.f16 false true false false) := by
  obtain ⟨places, hx⟩ := reads os enc
  refine returnsInHanded_of_row (C := Tryd.checked) (s := OpenSpec.ofChange Rows.lexDifferenceSpec) ownK started (by kernel_rfl) Tryd.func16
    (witness_row_at (enc := enc) (C := Tryd.checked) false (laidWorld os #[]) wargs rfl (varsK os wargs) (restK os wargs) (by kernel_rfl)
      (OpenSpec.preRow_of_cond 8 hx (by kernel_rfl) (fun k hk => by cases hk) (by kernel_rfl) (laid_metK os wargs))) ?_
  intro W base args ds gs before hval hW _ _ hwt hL _ _
  exact contract H enc W base args ds gs before hval hW hwt hL

theorem said : Rows.LexDifferenceSaid :=
  OpenClaim.holds_of_cond 16 Tryd.f16 rfl rfl rfl rfl rfl rfl rfl ⟨rfl, rfl, rfl, rfl, rfl⟩ rfl rfl rfl rfl rfl (by kernel_rfl) Tryd.func16 (by kernel_rfl)
    (of_decide_eq_true (by kernel_rfl)) (by unfold Func.isWrapper; first | (rw [if_pos (by decide +kernel)]; kernel_rfl) | (rw [if_neg (by decide +kernel)]; exact ⟨rfl, rfl⟩))
    (fun os started H enc _ F => by rw [OpenClaim.pre_eq_preRow]; exact lifted os started H enc F)

theorem plain (f : FuncId) (fn : Func) (hf : Tryd.pinned.checked.prog.funcNamed "riposte/ripostelaw01.LexDifference" = some f) (hfn : Tryd.pinned.checked.prog.funcs[f]? = some fn) :
    true = Tryd.pinned.checked.prog.looks [] ∧ ∀ (j : Nat) t, fn.params[j]? = some t → Tryd.pinned.checked.prog.wantsStandIn t = false := by
  obtain rfl : f = 16 := Option.some.inj ((show Tryd.prog.funcNamed "riposte/ripostelaw01.LexDifference" = some 16 by kernel_rfl).symm.trans hf) |>.symm
  obtain rfl : fn = Tryd.f16 := (Option.some.inj (Tryd.func16.symm.trans hfn)).symm
  refine ⟨by kernel_rfl, fun j t ht => ?_⟩
  rw [Tryd.params16] at ht
  exact (show ∀ t ∈ [9, 9], Tryd.prog.wantsStandIn t = false by
    intro t ht
    simp only [List.mem_cons, List.not_mem_nil, or_false] at ht
    rcases ht with rfl | rfl <;> kernel_rfl) t (by simpa using Array.mem_of_getElem? ht)

theorem card : Rows.LexDifferenceCardSaid :=
  Claim7.holds_tied_plain_at .later [] _ _ _ _ said (fun _ h => by cases h) (by kernel_rfl) (fun _ h => by cases h) lexDifference_row_tie rfl ⟨rfl, rfl⟩ (by kernel_rfl) rfl plain (by kernel_rfl)
end lexDifference
end Go.Proofs.YtlkhlemafkfcbaaDoor
