/-
  What is proved: the tokens of the shortest text with any tokens are these, at rising places; without any of its blanks they are not (P1.10), at any list of at most 200 tokens whose texts have at most 100 bytes; at others the examples hold. Conditions: the listed package-level variables begin as the program's text lays them (the card ties them).
-/
import Derived.Test.YtchkngabppmbkaaDoorLexZQ
import Derived.Test.YtchkngabppmbkaaDoorLexZS
import Derived.Test.YtchkngabppmbkaaDoorLexQ
import Derived.Test.YtchkngabppmbkaaDoorLexWB
import Derived.Deep.RegionHeld3
namespace Go.Proofs.YtchkngabppmbkaaDoor
open Go.ChangeShapes Go.WideShapes Go.ChangeAt Go.RowKit

theorem without_eq (t : ByteArray) (i : Nat) : t.extract 0 i ++ t.extract (i + 1) t.size = Lx.without t i := by
  have h : (t.extract 0 i ++ t.extract (i + 1) t.size).data.toList = t.data.toList.take i ++ t.data.toList.drop (i + 1) := by
    rw [ByteArray.data_append, Array.toList_append, Lx.extract_list, Lx.extract_list, List.drop_zero, Nat.sub_zero, List.take_of_length_le (l := t.data.toList.drop (i + 1)) (by simp)]
  exact Lx.array_list h
theorem tks_neB {l : List Lx.Tk} {i : Nat} (h : i < l.length) : l ≠ [] := by intro e; subst e; simp at h
theorem rises {t : ByteArray} (h1 : (Lx.tokensOf t).1 = Lx.pieces t) (h2 : ∀ x ∈ Lx.pieces t, 0 < x.text.size) {i : Nat} {x y : Lx.Tk} (hx : (Lx.toksOf t)[i]? = some x) (hy : (Lx.toksOf t)[i + 1]? = some y) : x.pos < y.pos := by
  unfold Lx.toksOf at hx hy
  rw [h1, List.getElem?_map, Option.map_eq_some_iff] at hx hy
  obtain ⟨a, ha, rfl⟩ := hx
  obtain ⟨b, hb, rfl⟩ := hy
  have := Lx.pos_rises h2 ha hb
  show (a.pos : Int) < (b.pos : Int)
  omega

set_option maxRecDepth 100000 in
set_option maxHeartbeats 4000000 in
theorem back_main (l : List Lx.Tk) (A : Option Addr) (c : Nat) (w : World) (h200 : l.length ≤ 200) (hsh : Lx.shortOf l = true) (hS : Tks w w.heap.size A l) (hN : NilOk A c l.length) (hG : GV w) (hk : (Lx.tightOf l).2 = 0) :
    Calls Tryd.prog 11 #[.slice A l.length c] w fun e w' => e = .returned (.bool true) ∧ Below w.heap.size w w' := by
  have HW := Lib.hid (fun W (hB : Below w.heap.size w W) => awake_any W (hG.below hB))
  obtain ⟨hm, _⟩ := Lx.shortOf_mem hsh
  have HF := Lib.hid (short_any l A c w (by omega) (fun x hx => by have := hm x hx; omega) hS)
  rw [hsh] at HF
  have d1 : decide ((l.length : Int) > 200) = false := decide_eq_false (by omega)
  have HTI := Lib.hid (fun A c W (hB : Below w.heap.size w W) hS => tight_any l A c W (hG.below hB) (by omega) (fun x hx => by have := hm x hx; omega) hS)
  obtain ⟨u1, u2, u3, u4, _, _, _, u5⟩ := Lx.tokens_tight hk
  have hbl := fun (i : Nat) => Lx.back_blank (i := i) hk
  obtain ⟨t, ht⟩ : ∃ t, Lx.tightOf l = t := ⟨_, rfl⟩
  rw [ht] at u1 u2 u3 u4 u5 hbl hk HTI
  obtain ⟨t, te⟩ := t
  simp only at u1 u2 u3 u4 u5 hbl hk
  subst hk
  have hris := fun (i : Nat) (x y : Lx.Tk) => rises (i := i) (x := x) (y := y) u3 u4
  obtain ⟨M, hM⟩ : ∃ M, Lx.toksOf t = M := ⟨_, rfl⟩
  have HT2 := Lib.hid (fun W (hB : Below w.heap.size w W) => tokens_err t (by omega) W (hG.below hB) 0 u1 M hM)
  have HT3 := Lib.hid (fun i W (hB : Below w.heap.size w W) (hz : (Lx.without t i).size ≤ 281474976710656) => tokens_err (Lx.without t i) hz W (hG.below hB) _ rfl _ rfl)
  have hlM : M.length ≤ 900 := by rw [← hM]; exact toksOf_lenS t
  rw [hM] at u2 hris
  have HSB := Lib.hid (fun A C c d W hA hC => sameBut_any l M A C c d W (by omega) (by omega) hA hC)
  rw [decide_eq_true u2.symm] at HSB
  have HSB3 := Lib.hid (fun i A C c d W hA hC => sameBut_any l (Lx.toksOf (Lx.without t i)) A C c d W (by omega) (by have := toksOf_lenS (Lx.without t i); omega) hA hC)
  have HBL := Lib.hid hbl; have HRIS := Lib.hid hris
  clear hM u1 u2 u3 u4 ht hG hm hsh hbl hris
  go_enter Tryd.func11, Tryd.ntmps11
  go_wp2_with (first
    | (go_at_call 28; refine HF.out.mono ?_; rintro e w1 ⟨rfl, rfl⟩)
    | (at_builtin; go_loud (refine wpList_clone_toks rfl _ _ rfl rfl _ _ l rfl hS hN (by omega) ?_); intro A2 c2 w2 hS2 hN2 hB2; have htk2 := tksLaterS hS hB2)
    | (go_at_call 29; refine (HTI.out _ _ w2 hB2 hS2).mono ?_; rintro e w3 ⟨rfl, hB3⟩; have hBw3 := hB2.trans (hB3.mono hB2.size); have htk3 := tksLaterS htk2 hB3)
    | (go_at_call 19; refine (HT2.out w3 hBw3).mono ?_; rintro e w4 ⟨ao2, cap2, at2, rfl, hm4, hn2, hB4⟩; have hBw4 := hBw3.trans (hB4.mono hBw3.size); have htk4 := tksLaterS htk3 hB4)
    | (go_at_call 48; refine (HSB.out _ _ _ _ w4 htk4 hm4).mono ?_; rintro e w5 ⟨rfl, hB5⟩; have hBw5 := hBw4.trans (hB5.mono hBw4.size); have htk5 := tksLaterS htk4 hB5; have hm5 := tksLaterS hm4 hB5))
  have HK := Lib.hid htk5; have HKM := Lib.hid hm5
  clear htk2 htk3 htk4 htk5 hm4 hm5 hS2 hN2 hn2 hB2 hB3 hB4 hB5 hBw3 hBw4 HTI HT2 HF HSB
  have hsz5 := hBw5.size
  go_loopw [8] (fun i wr => ∃ j : Nat, j ≤ M.length ∧ i = .int .i64 j ∧ Below w5.heap.size w5 wr) (fun i _ => M.length - (intOf i).toNat)
  case atStart => exact ⟨0, Nat.zero_le _, rfl, Below.refl _ _⟩
  case round =>
    obtain ⟨j, hj, rfl, hB⟩ := hrel
    have hszB := hB.size
    by_cases hlt : j < M.length
    · obtain ⟨ba, oa, hAe, hba, hca⟩ := HKM.out.below hB (tks_neB hlt)
      cases hAe
      obtain ⟨x, hx⟩ : ∃ x, M[j]? = some x := ⟨_, List.getElem?_eq_getElem hlt⟩
      obtain ⟨x1, x2, x3⟩ := hca j x hx
      by_cases h0 : j = 0
      · have q0 : decide ((j : Int) > 0) = false := decide_eq_false (by omega)
        have q1 : ¬ 0 < j := by omega
        clear hca hx h0
        go_wp2
        go_quiet (fail)
        go_wp2
        go_roundw
        case rel => exact ⟨j + 1, by omega, by go_num, below_drewN hB _⟩
        case measure => simp [intOf]; omega
      · obtain ⟨y, hy⟩ : ∃ y, M[j - 1]? = some y := ⟨_, List.getElem?_eq_getElem (by omega)⟩
        obtain ⟨y1, y2, y3⟩ := hca (j - 1) y hy
        have hyx : y.pos < x.pos := HRIS.out (j - 1) y x hy (by rw [Nat.sub_add_cancel (by omega)]; exact hx)
        have hw1 : IntKind.i64.wrap ((j : Int) - 1) = ((j - 1 : Nat) : Int) := by rw [IntWalk.i64_in _ (by omega)]; omega
        have i1 : j - 1 < M.length := by omega
        have q1 : 0 < j := by omega
        have q2 : (0 : Int) < (j : Int) := by omega
        have q3 : (j : Int) > 0 := by omega
        have q4 : decide (x.pos ≤ y.pos) = false := decide_eq_false (by omega)
        clear hca hx hy
        generalize j - 1 = k1 at *
        go_wp2
        go_quiet (fail)
        go_wp2
        go_roundw
        case rel => exact ⟨j + 1, by omega, by go_num, below_drewN hB _⟩
        case measure => simp [intOf]; omega
    · have q1 : decide ((j : Int) < (M.length : Int)) = false := decide_eq_false (by omega)
      go_wp2
      have hBw := hBw5.trans (hB.mono hsz5)
      have hKr : Hid (Tks wr wr.heap.size A l) := (HK.out.below hB).mono hB.size
      generalize wr = w6 at *
      have hsz6 := hBw.size
      go_loopw [9] (fun i wr => ∃ k : Nat, k ≤ t.size ∧ i = .int .i64 k ∧ Below w6.heap.size w6 wr) (fun i _ => t.size - (intOf i).toNat)
      case atStart => exact ⟨0, Nat.zero_le _, rfl, Below.refl _ _⟩
      case round =>
        obtain ⟨k, hk, rfl, hB2⟩ := hrel
        have hBw7 := hBw.trans (hB2.mono hsz6)
        by_cases hlt2 : k < t.size
        · by_cases h32 : Lx.byteAt t k = 32
          · have hbe : (((t[k].toNat : Nat) : Int) != 32) = false := by
              rw [Lx.byteAt_eq t k hlt2] at h32
              rw [h32]; rfl
            have sl1 : ((k : Int) + 1).toNat = k + 1 := by omega
            have ad1 : ∀ W : World, (Op.stringOp .add (t.extract 0 k) (t.extract (k + 1) t.size)).run Tryd.prog W = .ok (.string (Lx.without t k)) W := fun W => by
              rw [← without_eq]
              exact run_string_add_sum (w := W) _ _ (by rw [ByteArray.size_extract, ByteArray.size_extract]; omega)
            have huz : (Lx.without t k).size ≤ 281474976710656 := by
              rw [← without_eq, ByteArray.size_append, ByteArray.size_extract, ByteArray.size_extract]; omega
            have HT := Lib.hid (HT3.out k wr.drew hBw7.drew huz)
            have HS3 := Lib.hid (HSB3.out k)
            have HNE := Lib.hid (HBL.out k hlt2 h32)
            have sl2 : (k : Int) + 1 ≤ t.size := by omega
            have sl3 : (0 : Int) ≤ (k : Int) := by omega
            have sl4 : (k : Int) ≤ (t.size : Int) := by omega
            have sl5 : (0 : Int) ≤ (k : Int) + 1 := by omega
            have hw1 : IntKind.i64.wrap ((k : Int) + 1) = (k : Int) + 1 := IntWalk.i64_in _ (by omega)
            clear h32
            go_wp2
            go_region_held3 (fun _ => True) (first | exact trivial | trivial) ((go_at_call 19; refine HT.out.mono ?_; rintro e w8 ⟨ao3, cap3, at3, rfl, hm8, hn8, hB8⟩))
            have hBw8 : Below w6.heap.size w6 w8 := hB2.drew.trans (hB8.mono (by have := hB2.size; simpa using this))
            have hT8 : Hid (Tks w8 w8.heap.size A l) := (hKr.out.below hBw8).mono hBw8.size
            have HM8 := Lib.hid hm8
            clear hm8 hn8
            by_cases he : (Lx.tokensOf (Lx.without t k)).2.2 = 0
            · have hne := HNE.out he
              have HSF := Lib.hid (HS3.out A ao3 c cap3 w8 hT8.out HM8.out)
              rw [decide_eq_false (fun e => hne e.symm)] at HSF
              have e0 : (((Lx.tokensOf (Lx.without t k)).2.2 : Int) == 0) = true := by rw [beq_iff_eq]; omega
              generalize (Lx.tokensOf (Lx.without t k)).2.2 = er at *
              generalize Lx.toksOf (Lx.without t k) = M3 at *
              clear he hne
              go_wp2_with (go_at_call 48; refine HSF.out.mono ?_; rintro e w9 ⟨rfl, hB9⟩)
              go_roundw
              case rel => exact ⟨k + 1, by omega, by go_num, hBw8.trans (hB9.mono hBw8.size)⟩
              case measure => simp [intOf]; omega
            · have e0 : (((Lx.tokensOf (Lx.without t k)).2.2 : Int) == 0) = false := by rw [beq_eq_false_iff_ne]; omega
              generalize (Lx.tokensOf (Lx.without t k)).2.2 = er at *
              generalize Lx.toksOf (Lx.without t k) = M3 at *
              clear he
              go_wp2
              go_roundw
              case rel => exact ⟨k + 1, by omega, by go_num, hBw8⟩
              case measure => simp [intOf]; omega
          · have hbe : (((t[k].toNat : Nat) : Int) != 32) = true := by
              rw [bne_iff_ne]
              intro e
              rw [Lx.byteAt_eq t k hlt2] at h32
              exact h32 (UInt8.toNat_inj.1 (by have h : (32 : UInt8).toNat = 32 := rfl; rw [h]; omega))
            clear h32
            go_wp2
            go_roundw
            case rel => exact ⟨k + 1, by omega, by go_num, hB2⟩
            case measure => simp [intOf]; omega
        · have q1 : decide ((k : Int) < (t.size : Int)) = false := decide_eq_false (by omega)
          go_wp2_with (go_at_call 18; refine (HW.out _ hBw7).mono ?_; rintro e w9 ⟨rfl, hB9⟩)
          go_ret
          exact ⟨rfl, hBw7.trans (hB9.mono hBw7.size)⟩

set_option maxRecDepth 100000 in
set_option maxHeartbeats 4000000 in
theorem lawBack_any (l : List Lx.Tk) (A : Option Addr) (c : Nat) (w : World) (hl : l.length ≤ 281474976710656) (hz : ∀ x ∈ l, x.text.size ≤ 281474976710656) (hS : Tks w w.heap.size A l) (hN : NilOk A c l.length) (hG : GV w) :
    Calls Tryd.prog 11 #[.slice A l.length c] w fun e w' => e = .returned (.bool true) ∧ Below w.heap.size w w' := by
  have HW := Lib.hid (fun W (hB : Below w.heap.size w W) => awake_any W (hG.below hB))
  by_cases h1 : l.length ≤ 200
  · have d1 : decide ((l.length : Int) > 200) = false := decide_eq_false (by omega)
    have HF := Lib.hid (short_any l A c w (by omega) hz hS)
    cases hsh : Lx.shortOf l
    · rw [hsh] at HF
      clear hG hz
      go_enter Tryd.func11, Tryd.ntmps11
      go_wp2_with (first
        | (go_at_call 28; refine HF.out.mono ?_; rintro e w1 ⟨rfl, rfl⟩)
        | (go_at_call 18; refine (HW.out _ (Below.refl _ _)).mono ?_; rintro e w4 ⟨rfl, hB4⟩))
      go_ret
      exact ⟨rfl, hB4⟩
    · by_cases hk : (Lx.tightOf l).2 = 0
      · exact back_main l A c w h1 hsh hS hN hG hk
      · rw [hsh] at HF
        obtain ⟨hm, _⟩ := Lx.shortOf_mem hsh
        have HTI := Lib.hid (fun A c W (hB : Below w.heap.size w W) hS => tight_any l A c W (hG.below hB) (by omega) (fun x hx => by have := hm x hx; omega) hS)
        have h0 : (((Lx.tightOf l).2 : Int) != 0) = true := by rw [bne_iff_ne]; omega
        generalize Lx.tightOf l = R at *
        clear hG hz hm hsh hk
        go_enter Tryd.func11, Tryd.ntmps11
        go_wp2_with (first
          | (go_at_call 28; refine HF.out.mono ?_; rintro e w1 ⟨rfl, rfl⟩)
          | (at_builtin; go_loud (refine wpList_clone_toks rfl _ _ rfl rfl _ _ l rfl hS hN (by omega) ?_); intro A2 c2 w2 hS2 hN2 hB2)
          | (go_at_call 29; refine (HTI.out _ _ w2 hB2 hS2).mono ?_; rintro e w3 ⟨rfl, hB3⟩; have hBw3 := hB2.trans (hB3.mono hB2.size))
          | (go_at_call 18; refine (HW.out _ hBw3).mono ?_; rintro e w4 ⟨rfl, hB4⟩))
        go_ret
        exact ⟨rfl, hBw3.trans (hB4.mono hBw3.size)⟩
  · have d1 : decide ((l.length : Int) > 200) = true := decide_eq_true (by omega)
    go_enter Tryd.func11, Tryd.ntmps11
    go_wp2_with (go_at_call 18; refine (HW.out _ (Below.refl _ _)).mono ?_; rintro e w4 ⟨rfl, hB4⟩)
    go_ret
    exact ⟨rfl, hB4⟩

-- CALL: lawBack_any a0 A0 c0 W (by omega) (fun x hx => by have := hT0 x hx; omega) hS0 (fun e => by obtain ⟨h1, h2⟩ := hN0 e; exact ⟨h1, by rw [h2]; rfl⟩) (gv_of_laid hL)
namespace lexBack
set_option maxRecDepth 100000 in
theorem contract (H : Type) (enc : TypeId × Value → H) (W : World) (base : Nat) (args : Array Value) (ds gs : List (DataW H)) (before : List MemPlace)
    (hval : ∀ (j : Nat) t v, Tryd.f11.params[j]? = some t → args[j]? = some v → Value.okWide Tryd.prog W .any base t v)
    (hW : DataW.Whole enc Tryd.prog Tryd.f11.params.toList Rows.lexBackSpec.vars false W args.toList ds gs before)
    (hwt : (DataW.weightsEach Tryd.prog (Tryd.f11.params.toList ++ (OpenSpec.ofChange Rows.lexBackSpec).bare.plain.varTypes Tryd.prog) (ds ++ gs)).all (· ≤ reachBytes) = true)
    (hL : laidMetH Tryd.prog Rows.lexBackRow.laid W) :
    Calls Tryd.prog 11 args W fun e W' => ∃ v, e = .returned v ∧ Rows.lexBackSpec.post enc Tryd.prog Tryd.f11 false true false false W args v W' := by
  have hW' := hW
  obtain ⟨p, q, hA0, hV, rfl, hfz, hnd⟩ := hW
  have hA : DataW.TrodAll enc Tryd.prog W 0 (fun _ => true) true Tryd.f11.params.toList args.toList ds p := hA0
  rw [Tryd.params11] at hA hval hwt
  obtain ⟨v0, vs0, d0, ds0, p0, q0, hargs, rfl, rfl, h0, r0⟩ := trodAll_cons hA
  obtain ⟨rfl, rfl, rfl⟩ := trodAll_nil r0
  obtain rfl : args = #[v0] := by cases args; simp_all
  obtain ⟨rfl, rfl⟩ := trodVars_none hV
  have w0 := reach_of hwt 0 (d := d0) rfl rfl
  obtain ⟨A0, c0, a0, rfl, hS0, hT0, hl0, hN0⟩ := open_toks (hval 0 23 v0 rfl rfl) h0 w0
  clear hA0
  unfold reachBytes at *
  refine (lawBack_any a0 A0 c0 W (by omega) (fun x hx => by have := hT0 x hx; omega) hS0 (fun e => by obtain ⟨h1, h2⟩ := hN0 e; exact ⟨h1, by rw [h2]; rfl⟩) (gv_of_laid hL)).mono fun e W' ⟨he, hB⟩ => ?_
  subst he
  exact ⟨_, rfl, law_post hW' hB rfl rfl (by
    rw [Tryd.params11]
    exact (fun t ht => by
      simp only [List.mem_cons, List.not_mem_nil, or_false] at ht
      rcases ht with rfl <;> exact ⟨by kernel_rfl, of_decide_eq_true (by kernel_rfl)⟩)) rfl rfl rfl⟩

def wargs : Array Value := #[.slice none 0 0]
theorem reads (os : Os) {H : Type} (enc : TypeId × Value → H) : ∃ places, DataW.whole enc Tryd.prog ((laidWorld os #[]).forCall (fun _ _ => 0) ⟨#[], wargs, []⟩).memory Tryd.f11.params.toList Rows.lexBackSpec.vars false wargs.toList 8 = some ([.nil], [], places) :=
  ⟨[], by kernel_rfl⟩

set_option maxRecDepth 100000 in
theorem lifted (os : Os) (started : os.Started) (H : Type) (enc : TypeId × Value → H) (F : Stop.Interp) :
    ReturnsInHanded {} Tryd.checked os 11 .any ((OpenSpec.ofChange Rows.lexBackSpec).preRow enc Tryd.prog Tryd.f11 Rows.lexBackRow.domain false Rows.lexBackRow.laid) (((OpenSpec.ofChange Rows.lexBackSpec).at F).post enc Tryd.prog Tryd.f11 false true false false) := by
  obtain ⟨places, hx⟩ := reads os enc
  refine returnsInHanded_of_row (C := Tryd.checked) (s := OpenSpec.ofChange Rows.lexBackSpec) ownK started (by kernel_rfl) Tryd.func11
    (witness_row_at (enc := enc) (C := Tryd.checked) false (laidWorld os #[]) wargs rfl (varsK os wargs) (restK os wargs) (by kernel_rfl)
      (OpenSpec.preRow_of_cond 8 hx (by kernel_rfl) (fun k hk => by cases hk) (by kernel_rfl) (laid_metK os wargs))) ?_
  intro W base args ds gs before hval hW _ _ hwt hL _ _
  exact contract H enc W base args ds gs before hval hW hwt hL

theorem said : Rows.LexBackSaid :=
  OpenClaim.holds_of_cond 11 Tryd.f11 rfl rfl rfl rfl rfl rfl rfl ⟨rfl, rfl, rfl, rfl, rfl⟩ rfl rfl rfl rfl rfl (by kernel_rfl) Tryd.func11 (by kernel_rfl)
    (of_decide_eq_true (by kernel_rfl)) (by unfold Func.isWrapper; first | (rw [if_pos (by decide +kernel)]; kernel_rfl) | (rw [if_neg (by decide +kernel)]; exact ⟨rfl, rfl⟩))
    (fun os started H enc _ F => by rw [OpenClaim.pre_eq_preRow]; exact lifted os started H enc F)

theorem plain (f : FuncId) (fn : Func) (hf : Tryd.pinned.checked.prog.funcNamed "riposte/ripostelaw01.LexBack" = some f) (hfn : Tryd.pinned.checked.prog.funcs[f]? = some fn) :
    true = Tryd.pinned.checked.prog.looks [] ∧ ∀ (j : Nat) t, fn.params[j]? = some t → Tryd.pinned.checked.prog.wantsStandIn t = false := by
  obtain rfl : f = 11 := Option.some.inj ((show Tryd.prog.funcNamed "riposte/ripostelaw01.LexBack" = some 11 by kernel_rfl).symm.trans hf) |>.symm
  obtain rfl : fn = Tryd.f11 := (Option.some.inj (Tryd.func11.symm.trans hfn)).symm
  refine ⟨by kernel_rfl, fun j t ht => ?_⟩
  rw [Tryd.params11] at ht
  exact (show ∀ t ∈ [23], Tryd.prog.wantsStandIn t = false by
    intro t ht
    simp only [List.mem_cons, List.not_mem_nil, or_false] at ht
    rcases ht with rfl <;> kernel_rfl) t (by simpa using Array.mem_of_getElem? ht)

theorem card : Rows.LexBackCardSaid :=
  Claim7.holds_tied_plain_at .later [] _ _ _ _ said (fun _ h => by cases h) (by kernel_rfl) (fun _ h => by cases h) lexBack_row_tie rfl ⟨rfl, rfl⟩ (by kernel_rfl) rfl plain (by kernel_rfl)
end lexBack
end Go.Proofs.YtchkngabppmbkaaDoor
