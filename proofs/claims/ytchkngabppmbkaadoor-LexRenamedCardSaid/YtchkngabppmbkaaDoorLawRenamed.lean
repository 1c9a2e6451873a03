/-
  What is proved: a text that is renamed, and renamed back, is the text before, and the kinds of its tokens stay (P1.15), at any text of at most 3000 bytes and any names of at most 100; at longer ones the examples hold. Conditions: the listed package-level variables begin as the program's text lays them (the card ties them).
-/
import Derived.Test.YtchkngabppmbkaaDoorLexP
import Derived.Test.YtchkngabppmbkaaDoorLexQ
import Derived.Test.YtchkngabppmbkaaDoorLexW
import Derived.Test.YtchkngabppmbkaaDoorLexT
import Derived.Test.YtchkngabppmbkaaDoorSpecX
import Derived.BigQuiet
namespace Go.Proofs.YtchkngabppmbkaaDoor
open Go.ChangeShapes Go.WideShapes Go.ChangeAt Go.RowKit

theorem tokensOf_lenR (s : ByteArray) : (Lx.tokensOf s).1.length ≤ 900 := by
  by_cases h : (Lx.tokensOf s).2.2 = 0
  · exact (Lx.tokensOf_ok h).2.2.2.1
  · rw [Lx.tokensOf_bad h]; simp
theorem tksLaterR {w w' : World} {A : Option Addr} {l : List Lx.Tk} (h : Tks w w.heap.size A l) (hB : Below w.heap.size w w') : Tks w' w'.heap.size A l := (h.below hB).mono hB.size
theorem tks_neR {l : List Lx.Tk} {i : Nat} (h : i < l.length) : l ≠ [] := by intro e; subst e; simp at h
/-- lex.Tokens at a text without an error. -/
theorem tokens_ok (s : ByteArray) (hs : s.size ≤ 281474976710656) (w : World) (hG : GV w) (h : (Lx.tokensOf s).2.2 = 0) (L : List Lx.Tk) (hL : Lx.toksOf s = L) :
    Calls Tryd.prog 19 #[.string s] w fun e w' => ∃ ao cap at', e = .returned (.tuple #[.slice ao L.length cap, .int .i64 at', .int .i64 0]) ∧ Tks w' w'.heap.size ao L ∧ Below w.heap.size w w' := (tokens_any s hs w hG).mono (by
  rintro e w' ⟨v, he, hown, hB⟩
  obtain ⟨ao, cap, rfl, ht⟩ := own_tks hown
  have hl : L.length = (Lx.tokensOf s).1.length := by rw [← hL, Lx.toksOf, List.length_map]
  have ht' : Tks w' w'.heap.size ao L := by rw [← hL]; exact ht
  rw [h] at he
  exact ⟨ao, cap, _, by rw [hl]; exact he, ht', hB⟩)
theorem str_ne (a b : ByteArray) : (a.toList != b.toList) = !decide (a = b) := by rw [bne, str_eq]

set_option maxRecDepth 100000 in
set_option maxHeartbeats 4000000 in
theorem renamed_main (s old name : ByteArray) (w : World) (hs : s.size ≤ 3000) (ho : old.size ≤ 100) (hn : name.size ≤ 100) (hG : GV w) (hk : (Lx.renameOf s old name).2 = 0) :
    Calls Tryd.prog 17 #[.string s, .string old, .string name] w fun e w' => e = .returned (.bool true) ∧ Below w.heap.size w w' := by
  have HW := Lib.hid (fun W (hB : Below w.heap.size w W) => awake_any W (hG.below hB))
  have d1 : decide ((s.size : Int) > 3000) = false := decide_eq_false (by omega)
  have d2 : decide ((old.size : Int) > 100) = false := decide_eq_false (by omega)
  have d3 : decide ((name.size : Int) > 100) = false := decide_eq_false (by omega)
  obtain ⟨r1, r2, r3, r4, r5, r6⟩ := Lx.renamed hk
  have HR1 := Lib.hid (rename_any s old name w (by omega) (by omega) (by omega) hG)
  rw [hk] at HR1
  generalize (Lx.renameOf s old name).1 = t at *
  have HR2 := Lib.hid (fun W (hB : Below w.heap.size w W) => rename_any t name old W (by omega) (by omega) (by omega) (hG.below hB))
  rw [r1] at HR2
  obtain ⟨L, hL⟩ : ∃ L, Lx.toksOf s = L := ⟨_, rfl⟩
  obtain ⟨M, hM⟩ : ∃ M, Lx.toksOf t = M := ⟨_, rfl⟩
  have HT1 := Lib.hid (fun W (hB : Below w.heap.size w W) => tokens_ok s (by omega) W (hG.below hB) r2 L hL)
  have HT2 := Lib.hid (fun W (hB : Below w.heap.size w W) => tokens_ok t (by omega) W (hG.below hB) r3 M hM)
  have hl1 : L.length ≤ 900 := by rw [← hL, Lx.toksOf, List.length_map]; exact tokensOf_lenR s
  rw [hL, hM] at r4 r6
  have HREL := Lib.hid r6
  have hbs := str_eq s s
  have hbn := str_ne s s
  rw [decide_eq_true rfl] at hbs hbn
  have HLL := Lib.hid r4
  have hne : ((L.length : Int) != (M.length : Int)) = false := by rw [bne_eq_false_iff_eq]; omega
  clear r1 r2 r3 r4 r5 r6 hk hL hM hG
  go_enter Tryd.func17, Tryd.ntmps17
  go_wp2_with (first
    | (go_at_call 46; refine (HR2.out w1 hB1).mono ?_; rintro e w2 ⟨rfl, hB2⟩; have hBw2 := hB1.trans (hB2.mono hB1.size))
    | (go_at_call 46; refine HR1.out.mono ?_; rintro e w1 ⟨rfl, hB1⟩)
    | (go_at_call 19; refine (HT2.out w3 hBw3).mono ?_; rintro e w4 ⟨ao2, cap2, at2, rfl, htk2, hB4⟩; have hBw4 := hBw3.trans (hB4.mono hBw3.size); have htk1' := tksLaterR htk1 hB4)
    | (go_at_call 19; refine (HT1.out w2 hBw2).mono ?_; rintro e w3 ⟨ao1, cap1, at1, rfl, htk1, hB3⟩; have hBw3 := hBw2.trans (hB3.mono hBw2.size)))
  have HK1 := Lib.hid htk1'; have HK2 := Lib.hid htk2
  clear htk1 htk1' htk2 hB1 hB2 hB3 hB4 hBw2 hBw3 HR1 HR2 HT1 HT2
  have hsz4 := hBw4.size
  go_loopw [17] (fun i wr => ∃ j : Nat, j ≤ L.length ∧ i = .int .i64 j ∧ Below w4.heap.size w4 wr) (fun i _ => L.length - (intOf i).toNat)
  case atStart => exact ⟨0, Nat.zero_le _, rfl, Below.refl _ _⟩
  case round =>
    obtain ⟨j, hj, rfl, hB⟩ := hrel
    by_cases hlt : j < L.length
    · obtain ⟨ba, oa, hAe, hba, hca⟩ := HK1.out.below hB (tks_neR hlt)
      have hltM : j < M.length := by have := HLL.out; omega
      obtain ⟨bb, ob, hCe, hbb, hcb⟩ := HK2.out.below hB (tks_neR hltM)
      cases hAe; cases hCe
      obtain ⟨x, hx⟩ : ∃ x, L[j]? = some x := ⟨_, List.getElem?_eq_getElem hlt⟩
      obtain ⟨y, hy⟩ : ∃ y, M[j]? = some y := ⟨_, List.getElem?_eq_getElem hltM⟩
      obtain ⟨x1, x2, x3⟩ := hca j x hx
      obtain ⟨y1, y2, y3⟩ := hcb j y hy
      obtain ⟨k1, k2⟩ := HREL.out j x y hx hy
      clear hca hcb hx hy
      obtain ⟨ka, ta, pa⟩ := x
      obtain ⟨kb, tb, pb⟩ := y
      simp only at x1 x2 x3 y1 y2 y3 k1 k2
      subst k1
      rcases k2 with ⟨rfl, k3⟩ | ⟨rfl, rfl, rfl⟩
      · have e1 := str_eq ta ta
        have e2 := str_eq ta old
        have e3 := str_ne ta old
        rw [decide_eq_true rfl] at e1
        rw [decide_eq_false k3] at e2 e3
        go_wp2
        go_quiet (fail)
        go_wp2
        go_quiet (fail)
        go_wp2
        go_roundw
        case rel => exact ⟨j + 1, by omega, by go_num, below_drewN hB _⟩
        case measure => simp [intOf]; omega
      · have e1 := str_eq ta tb
        have e2 := str_eq ta ta
        have e3 := str_ne ta ta
        have e4 := str_eq tb tb
        have e5 := str_ne tb tb
        rw [decide_eq_true rfl] at e2 e3 e4 e5
        by_cases hon : ta = tb
        · rw [decide_eq_true hon] at e1
          go_wp2
          go_quiet (fail)
          go_wp2
          go_quiet (fail)
          go_wp2
          go_roundw
          case rel => exact ⟨j + 1, by omega, by go_num, below_drewN hB _⟩
          case measure => simp [intOf]; omega
        · rw [decide_eq_false hon] at e1
          go_wp2
          go_quiet (fail)
          go_wp2
          go_quiet (fail)
          go_wp2
          go_roundw
          case rel => exact ⟨j + 1, by omega, by go_num, below_drewN hB _⟩
          case measure => simp [intOf]; omega
    · have q1 : decide ((j : Int) < (L.length : Int)) = false := decide_eq_false (by omega)
      have hBw := hBw4.trans (hB.mono hsz4)
      go_wp2_with (go_at_call 18; refine (HW.out _ hBw).mono ?_; rintro e w9 ⟨rfl, hB9⟩)
      go_ret
      exact ⟨rfl, hBw.trans (hB9.mono hBw.size)⟩

set_option maxRecDepth 100000 in
set_option maxHeartbeats 4000000 in
theorem lawRenamed_any (s old name : ByteArray) (w : World) (hs : s.size ≤ 281474976710656) (ho : old.size ≤ 281474976710656) (hn : name.size ≤ 281474976710656) (hG : GV w) :
    Calls Tryd.prog 17 #[.string s, .string old, .string name] w fun e w' => e = .returned (.bool true) ∧ Below w.heap.size w w' := by
  have HW := Lib.hid (fun W (hB : Below w.heap.size w W) => awake_any W (hG.below hB))
  by_cases h1 : s.size ≤ 3000
  · by_cases h2 : old.size ≤ 100
    · by_cases h3 : name.size ≤ 100
      · by_cases h4 : (Lx.renameOf s old name).2 = 0
        · exact renamed_main s old name w h1 h2 h3 hG h4
        · have d1 : decide ((s.size : Int) > 3000) = false := decide_eq_false (by omega)
          have d2 : decide ((old.size : Int) > 100) = false := decide_eq_false (by omega)
          have d3 : decide ((name.size : Int) > 100) = false := decide_eq_false (by omega)
          have HR1 := Lib.hid (rename_any s old name w (by omega) (by omega) (by omega) hG)
          have h0 : (((Lx.renameOf s old name).2 : Int) != 0) = true := by rw [bne_iff_ne]; omega
          generalize Lx.renameOf s old name = R at *
          clear hG h4
          go_enter Tryd.func17, Tryd.ntmps17
          go_wp2_with (first
            | (go_at_call 46; refine HR1.out.mono ?_; rintro e w1 ⟨rfl, hB1⟩)
            | (go_at_call 18; refine (HW.out w1 hB1).mono ?_; rintro e w3 ⟨rfl, hB3⟩; have hBw3 := hB1.trans (hB3.mono hB1.size)))
          go_ret
          exact ⟨rfl, hBw3⟩
      · have d1 : decide ((s.size : Int) > 3000) = false := decide_eq_false (by omega)
        have d2 : decide ((old.size : Int) > 100) = false := decide_eq_false (by omega)
        have d3 : decide ((name.size : Int) > 100) = true := decide_eq_true (by omega)
        go_enter Tryd.func17, Tryd.ntmps17
        go_wp2_with (go_at_call 18; refine (HW.out _ (Below.refl _ _)).mono ?_; rintro e w4 ⟨rfl, hB4⟩)
        go_ret
        exact ⟨rfl, hB4⟩
    · have d1 : decide ((s.size : Int) > 3000) = false := decide_eq_false (by omega)
      have d2 : decide ((old.size : Int) > 100) = true := decide_eq_true (by omega)
      go_enter Tryd.func17, Tryd.ntmps17
      go_wp2_with (go_at_call 18; refine (HW.out _ (Below.refl _ _)).mono ?_; rintro e w4 ⟨rfl, hB4⟩)
      go_ret
      exact ⟨rfl, hB4⟩
  · have d1 : decide ((s.size : Int) > 3000) = true := decide_eq_true (by omega)
    go_enter Tryd.func17, Tryd.ntmps17
    go_wp2_with (go_at_call 18; refine (HW.out _ (Below.refl _ _)).mono ?_; rintro e w4 ⟨rfl, hB4⟩)
    go_ret
    exact ⟨rfl, hB4⟩

-- CALL: lawRenamed_any a0 a1 a2 W (by omega) (by omega) (by omega) (gv_of_laid hL)
namespace lexRenamed
set_option maxRecDepth 100000 in
theorem contract (H : Type) (enc : TypeId × Value → H) (W : World) (base : Nat) (args : Array Value) (ds gs : List (DataW H)) (before : List MemPlace)
    (hval : ∀ (j : Nat) t v, Tryd.f17.params[j]? = some t → args[j]? = some v → Value.okWide Tryd.prog W .any base t v)
    (hW : DataW.Whole enc Tryd.prog Tryd.f17.params.toList Rows.lexRenamedSpec.vars false W args.toList ds gs before)
    (hwt : (DataW.weightsEach Tryd.prog (Tryd.f17.params.toList ++ (OpenSpec.ofChange Rows.lexRenamedSpec).bare.plain.varTypes Tryd.prog) (ds ++ gs)).all (· ≤ reachBytes) = true)
    (hL : laidMetH Tryd.prog Rows.lexRenamedRow.laid W) :
    Calls Tryd.prog 17 args W fun e W' => ∃ v, e = .returned v ∧ Rows.lexRenamedSpec.post enc Tryd.prog Tryd.f17 false true false false W args v W' := by
  have hW' := hW
  obtain ⟨p, q, hA0, hV, rfl, hfz, hnd⟩ := hW
  have hA : DataW.TrodAll enc Tryd.prog W 0 (fun _ => true) true Tryd.f17.params.toList args.toList ds p := hA0
  rw [Tryd.params17] at hA hval hwt
  obtain ⟨v0, vs0, d0, ds0, p0, q0, hargs, rfl, rfl, h0, r0⟩ := trodAll_cons hA
  obtain ⟨v1, vs1, d1, ds1, p1, q1, rfl, rfl, rfl, h1, r1⟩ := trodAll_cons r0
  obtain ⟨v2, vs2, d2, ds2, p2, q2, rfl, rfl, rfl, h2, r2⟩ := trodAll_cons r1
  obtain ⟨rfl, rfl, rfl⟩ := trodAll_nil r2
  obtain rfl : args = #[v0, v1, v2] := by cases args; simp_all
  obtain ⟨rfl, rfl⟩ := trodVars_none hV
  have w0 := reach_of hwt 0 (d := d0) rfl rfl
  obtain ⟨a0, rfl, rfl, rfl, ha0⟩ := Go.ChangeMaps.open_string Tryd.underlying9 (hval 0 9 v0 rfl rfl) h0
  have s0 : a0.size ≤ reachBytes := by simpa using reach_string w0
  have w1 := reach_of hwt 1 (d := d1) rfl rfl
  obtain ⟨a1, rfl, rfl, rfl, ha1⟩ := Go.ChangeMaps.open_string Tryd.underlying9 (hval 1 9 v1 rfl rfl) h1
  have s1 : a1.size ≤ reachBytes := by simpa using reach_string w1
  have w2 := reach_of hwt 2 (d := d2) rfl rfl
  obtain ⟨a2, rfl, rfl, rfl, ha2⟩ := Go.ChangeMaps.open_string Tryd.underlying9 (hval 2 9 v2 rfl rfl) h2
  have s2 : a2.size ≤ reachBytes := by simpa using reach_string w2
  clear hA0
  unfold reachBytes at *
  refine (lawRenamed_any a0 a1 a2 W (by omega) (by omega) (by omega) (gv_of_laid hL)).mono fun e W' ⟨he, hB⟩ => ?_
  subst he
  exact ⟨_, rfl, law_post hW' hB rfl rfl (by
    rw [Tryd.params17]
    exact (fun t ht => by
      simp only [List.mem_cons, List.not_mem_nil, or_false] at ht
      rcases ht with rfl | rfl | rfl <;> exact ⟨by kernel_rfl, of_decide_eq_true (by kernel_rfl)⟩)) rfl rfl rfl⟩

def wargs : Array Value := #[.string ⟨#[]⟩, .string ⟨#[]⟩, .string ⟨#[]⟩]
theorem reads (os : Os) {H : Type} (enc : TypeId × Value → H) : ∃ places, DataW.whole enc Tryd.prog ((laidWorld os #[]).forCall (fun _ _ => 0) ⟨#[], wargs, []⟩).memory Tryd.f17.params.toList Rows.lexRenamedSpec.vars false wargs.toList 8 = some ([.lit (.string []), .lit (.string []), .lit (.string [])], [], places) :=
  ⟨[], by kernel_rfl⟩

set_option maxRecDepth 100000 in
theorem lifted (os : Os) (started : os.Started) (H : Type) (enc : TypeId × Value → H) (F : Stop.Interp) :
    ReturnsInHanded {} Tryd.checked os 17 .any ((OpenSpec.ofChange Rows.lexRenamedSpec).preRow enc Tryd.prog Tryd.f17 Rows.lexRenamedRow.domain false Rows.lexRenamedRow.laid) (((OpenSpec.ofChange Rows.lexRenamedSpec).at F).post enc Tryd.prog Tryd.f17 false true false false) := by
  obtain ⟨places, hx⟩ := reads os enc
  refine returnsInHanded_of_row (C := Tryd.checked) (s := OpenSpec.ofChange Rows.lexRenamedSpec) ownK started (by kernel_rfl) Tryd.func17
    (witness_row_at (enc := enc) (C := Tryd.checked) false (laidWorld os #[]) wargs rfl (varsK os wargs) (restK os wargs) (by kernel_rfl)
      (OpenSpec.preRow_of_cond 8 hx (by kernel_rfl) (fun k hk => by cases hk) (by kernel_rfl) (laid_metK os wargs))) ?_
  intro W base args ds gs before hval hW _ _ hwt hL _ _
  exact contract H enc W base args ds gs before hval hW hwt hL

theorem said : Rows.LexRenamedSaid :=
  OpenClaim.holds_of_cond 17 Tryd.f17 rfl rfl rfl rfl rfl rfl rfl ⟨rfl, rfl, rfl, rfl, rfl⟩ rfl rfl rfl rfl rfl (by kernel_rfl) Tryd.func17 (by kernel_rfl)
    (of_decide_eq_true (by kernel_rfl)) (by unfold Func.isWrapper; first | (rw [if_pos (by decide +kernel)]; kernel_rfl) | (rw [if_neg (by decide +kernel)]; exact ⟨rfl, rfl⟩))
    (fun os started H enc _ F => by rw [OpenClaim.pre_eq_preRow]; exact lifted os started H enc F)

theorem plain (f : FuncId) (fn : Func) (hf : Tryd.pinned.checked.prog.funcNamed "riposte/ripostelaw01.LexRenamed" = some f) (hfn : Tryd.pinned.checked.prog.funcs[f]? = some fn) :
    true = Tryd.pinned.checked.prog.looks [] ∧ ∀ (j : Nat) t, fn.params[j]? = some t → Tryd.pinned.checked.prog.wantsStandIn t = false := by
  obtain rfl : f = 17 := Option.some.inj ((show Tryd.prog.funcNamed "riposte/ripostelaw01.LexRenamed" = some 17 by kernel_rfl).symm.trans hf) |>.symm
  obtain rfl : fn = Tryd.f17 := (Option.some.inj (Tryd.func17.symm.trans hfn)).symm
  refine ⟨by kernel_rfl, fun j t ht => ?_⟩
  rw [Tryd.params17] at ht
  exact (show ∀ t ∈ [9, 9, 9], Tryd.prog.wantsStandIn t = false by
    intro t ht
    simp only [List.mem_cons, List.not_mem_nil, or_false] at ht
    rcases ht with rfl | rfl | rfl <;> kernel_rfl) t (by simpa using Array.mem_of_getElem? ht)

theorem card : Rows.LexRenamedCardSaid :=
  Claim7.holds_tied_plain_at .later [] _ _ _ _ said (fun _ h => by cases h) (by kernel_rfl) (fun _ h => by cases h) lexRenamed_row_tie rfl ⟨rfl, rfl⟩ (by kernel_rfl) rfl plain (by kernel_rfl)
end lexRenamed
end Go.Proofs.YtchkngabppmbkaaDoor
