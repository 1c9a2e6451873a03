/-
  What is proved: splices, and then those that lead back, give the text; a byte that stays is the same one at the place to which it went, and places stay in order (P1.13), at any text of at most 3000 bytes with at most 40 splices whose texts have at most 3000 bytes together; at others the examples hold. Conditions: the listed package-level variables begin as the program's text lays them (the card ties them).
-/
import Derived.Test.YtlkhlemafkfcbaaDoorLexX
import Derived.Test.YtlkhlemafkfcbaaDoorLexY
import Derived.Test.YtlkhlemafkfcbaaDoorLexQ
import Derived.Test.YtlkhlemafkfcbaaDoorLexW
namespace Go.Proofs.YtlkhlemafkfcbaaDoor
open Go.ChangeShapes Go.WideShapes Go.ChangeAt Go.RowKit

theorem Spls.later {w w' : World} {A : Option Addr} {l : List Lx.Spl} (h : Spls w w.heap.size A l) (hB : Below w.heap.size w w') : Spls w' w'.heap.size A l := fun hn => by
  obtain ⟨b, off, h1, h2, h3⟩ := h.below hB hn
  exact ⟨b, off, h1, Nat.lt_of_lt_of_le h2 hB.size, h3⟩
theorem back_text {s : ByteArray} {l : List Lx.Spl} (h : s.size ≤ 3000) : ∀ x ∈ (Lx.undoOf s l).1, x.text.size ≤ 3000 := fun x hx => by
  unfold Lx.undoOf at hx
  split at hx
  · cases hx
  · obtain ⟨c, hc, rfl⟩ := List.mem_map.1 hx
    have := (Lx.chgs_mem s c hc).1
    unfold Lx.Chg.back
    simp only
    rw [this]
    unfold Lx.outOf
    rw [ByteArray.size_extract]; omega

set_option maxRecDepth 100000 in
set_option maxHeartbeats 4000000 in
theorem undone_main (s : ByteArray) (l : List Lx.Spl) (A : Option Addr) (c : Nat) (w : World) (hs : s.size ≤ 3000) (hf : Lx.fewOf l = true) (h40 : l.length ≤ 40) (h0 : (Lx.applyOf s l).2 = 0) (hS : Spls w w.heap.size A l) (hN : NilOk A c l.length) (hG : GV w) :
    Calls Tryd.prog 15 #[.string s, .slice A l.length c] w fun e w' => e = .returned (.bool true) ∧ Below w.heap.size w w' := by
  have HW := Lib.hid (fun W (hB : Below w.heap.size w W) => awake_any W (hG.below hB))
  obtain ⟨hm, _⟩ := Lx.fewOf_mem hf
  have HF := Lib.hid (few_any l A c w (by omega) (fun x hx => by have := hm x hx; omega) hS)
  rw [hf] at HF
  obtain ⟨u1, u2, u3, u4, u5, u6⟩ := Lx.undo_back h0
  have htl : (Lx.applyOf s l).1.size ≤ 2500 := by
    have h5 := (Lx.changesOf_ok u4).2.1
    exact Lx.textErr_le h5
  have hut := back_text (l := l) hs
  have hll : (Lx.undoOf s l).1.length ≤ 40 := by omega
  have HA := Lib.hid (fun A c W hS => apply_any s l A c W (by omega) (by omega) (fun x hx => by have := hm x hx; omega) hS)
  have HU := Lib.hid (fun A c W hS => undo_any s l A c W (by omega) (by omega) (fun x hx => by have := hm x hx; omega) hS)
  have HM := Lib.hid (fun p A c W hS => moved_any s l p A c W (by omega) (by omega) (fun x hx => by have := hm x hx; omega) hS)
  have HA2 := Lib.hid (fun A c W hS => apply_any (Lx.applyOf s l).1 (Lx.undoOf s l).1 A c W (by omega) (by omega) (fun x hx => by have := hut x hx; omega) hS)
  have HM2 := Lib.hid (fun p A c W hS => moved_any (Lx.applyOf s l).1 (Lx.undoOf s l).1 p A c W (by omega) (by omega) (fun x hx => by have := hut x hx; omega) hS)
  have HB := Lib.hid (fun p hp hp2 => Lx.moved_back h0 (p := p) hp hp2)
  have HO := Lib.hid (fun p p' n n' => Lx.moved_order h0 (p := p) (p' := p') (n := n) (n' := n'))
  rw [u5] at HA2
  have hne : (((Lx.undoOf s l).1.length : Int) != (l.length : Int)) = false := by rw [bne_eq_false_iff_eq]; omega
  obtain ⟨ta, te⟩ : ∃ ta te, Lx.applyOf s l = (ta, te) := ⟨_, _, rfl⟩
  obtain ⟨te, hte⟩ := te
  rw [hte] at h0 HA HA2 HM2 HB htl
  simp only at h0
  subst h0
  obtain ⟨ua, ue, hue⟩ : ∃ ua ue, Lx.undoOf s l = (ua, ue) := ⟨_, _, rfl⟩
  rw [hue] at u1 HU HA2 HM2 HB hne hll
  simp only at u1
  subst u1
  simp only at HA HU HA2 HM2 HB hne hll htl
  have d1 : decide ((s.size : Int) > 3000) = false := decide_eq_false (by omega)
  have d2 : decide ((l.length : Int) > 40) = false := decide_eq_false (by omega)
  have hbs := str_eq s s
  rw [decide_eq_true rfl] at hbs
  clear u2 u3 u4 u5 u6 hm hf hut hte hue hG
  go_enter Tryd.func15, Tryd.ntmps15
  go_wp2_with (first
    | (go_at_call 34; refine HF.out.mono ?_; rintro e w1 ⟨rfl, rfl⟩)
    | (go_at_call 35; refine (HA2.out _ _ w7 hS7).mono ?_; rintro e w8 ⟨rfl, hB8⟩; have hB18 := hB17.trans (hB8.mono hB17.size); have hU8 := hU7.later hB8; have hL8 := hL7.later hB8)
    | (go_at_call 35; refine (HA.out _ _ w2 hS2).mono ?_; rintro e w3 ⟨rfl, hB3⟩; have hB13 := hB2.trans (hB3.mono hB2.size); have hA3 := hA2.later hB3)
    | (go_at_call 39; refine (HU.out _ _ w4 hS4).mono ?_; rintro e w5 ⟨D, cd, rfl, hU5, hB5, hNU⟩; have hB15 := hB14.trans (hB5.mono hB14.size); have hL5 := hL4.later hB5)
    | (at_builtin; go_loud (refine wpList_clone_spls rfl _ _ rfl rfl _ _ ua rfl hU5 hNU (by omega) ?_); intro A7 c7 w7 hS7 hN7 hB7; have hB17 := hB15.trans (hB7.mono hB15.size); have hU7 := hU5.later hB7; have hL7 := hL5.later hB7)
    | (at_builtin; go_loud (refine wpList_clone_spls rfl _ _ rfl rfl _ _ l rfl hA3 hN (by omega) ?_); intro A4 c4 w4 hS4 hN4 hB4; have hB14 := hB13.trans (hB4.mono hB13.size); have hL4 := hA3.later hB4)
    | (at_builtin; go_loud (refine wpList_clone_spls rfl _ _ rfl rfl _ _ l rfl hS hN (by omega) ?_); intro A2 c2 w2 hS2 hN2 hB2; have hA2 := hS.later hB2))
  have HU8 := Lib.hid hU8; have HL8 := Lib.hid hL8
  clear hU8 hL8 hA2 hA3 hL4 hL5 hL7 hU5 hU7 hS2 hS4 hS7 hN2 hN4 hN7 hS hne hbs
  have hsz8 := hB18.size
  go_loopw [11, 12] (fun lst i wr => ∃ (k : Nat) (q : Int), i = .int .i64 k ∧ lst = .int .i64 q ∧ k ≤ 4000 ∧ -1 ≤ q ∧ Hid (q = -1 ∨ ∃ p : Nat, p < k ∧ Lx.movedOf s l (p : Int) = (q, 0)) ∧ Below w8.heap.size w8 wr) (fun _ i _ => s.size - (intOf i).toNat)
  case atStart => exact ⟨0, -1, rfl, rfl, by omega, by omega, .inl rfl, Below.refl _ _⟩
  case round =>
    obtain ⟨k, q, rfl, rfl, hk, hq, hlast, hBr⟩ := hrel
    have hBwr : Below w.heap.size w wr := hB18.trans (hBr.mono hsz8)
    by_cases hlt : k < s.size
    · have hLr := Lib.hid (HL8.out.later hBr)
      have hUr := Lib.hid (HU8.out.later hBr)
      have HMk := Lib.hid (fun A c W hS => HM.out (k : Int) A c W hS)
      have hdiv2 : s.size / 60 ≤ 50 := by omega
      rcases HB.out (k : Int) (by omega) (by omega) with h7 | ⟨n, hn, hnt, hby, hbk⟩
      · rw [h7] at HMk
        clear h7
        go_wp2_with (first
          | (go_at_call 37; refine (HMk.out _ _ w9 hS9).mono ?_; rintro e w10 ⟨rfl, hB10⟩; have hB910 := hB9.trans (hB10.mono hB9.size))
          | (at_builtin; go_loud (refine wpList_clone_spls rfl _ _ rfl rfl _ _ l rfl hLr.out hN (by omega) ?_); intro A9 c9 w9 hS9 hN9 hB9))
        go_roundw
        case rel => exact ⟨k + 1 + s.size / 60, q, by go_num, rfl, by omega, hq, hlast.out.imp id (fun ⟨p, h1, h2⟩ => ⟨p, by omega, h2⟩), hBr.trans (hB910.mono hBr.size)⟩
        case measure => simp [intOf]; omega
      · rw [hn] at HMk
        have hnq : q < (n : Int) := by
          rcases hlast.out with e | ⟨p, h1, h2⟩
          · omega
          · exact HO.out (p : Int) (k : Int) q n (by omega) (by omega) (by omega) h2 hn
        have HN := Lib.hid hn
        have HM2n := Lib.hid (fun A c W hS => HM2.out (n : Int) A c W hS)
        rw [hbk] at HM2n
        have hnt' : n < ta.size := hnt
        have hks : k < s.size := hlt
        have hbe : ((((ta[n]'hnt').toNat : Nat) : Int) != (((s[k]'hks).toNat : Nat) : Int)) = false := by
          have h1 : ta[n]'hnt' = s[k]'hks := by
            have := hby
            rw [Lx.byteAt_eq ta n hnt', Int.toNat_natCast, Lx.byteAt_eq s k hks] at this
            exact this
          rw [h1]; simp
        have hd1 : decide ((n : Int) ≤ q) = false := decide_eq_false (by omega)
        have hd2 : decide ((n : Int) ≥ (ta.size : Int)) = false := decide_eq_false (by omega)
        clear hn hby hbk
        go_wp2_with (first
          | (go_at_call 37; refine (HMk.out _ _ w9 hS9).mono ?_; rintro e w10 ⟨rfl, hB10⟩; have hB910 := hB9.trans (hB10.mono hB9.size); have hU10 := hU9.later hB10)
          | (at_builtin; go_loud (refine wpList_clone_spls rfl _ _ rfl rfl _ _ l rfl hLr.out hN (by omega) ?_); intro A9 c9 w9 hS9 hN9 hB9; have hU9 := hUr.out.later hB9))
        go_quiet (fail)
        have hB10q : Below w.heap.size w (w10.drewN nq) := below_drewN (hBwr.trans (hB910.mono hBwr.size)) nq
        have hU11 := Lib.hid (hU10.later (below_drewN (Below.refl w10.heap.size w10) nq))
        have hBrq : Below w8.heap.size w8 (w10.drewN nq) := below_drewN (hBr.trans (hB910.mono hBr.size)) nq
        generalize w10.drewN nq = w11 at *
        clear hU9 hU10
        go_wp2_with (first
          | (go_at_call 37; refine (HM2n.out _ _ w12 hS12).mono ?_; rintro e w13 ⟨rfl, hB13⟩; have hBrz := hBrq.trans ((hB12.trans (hB13.mono hB12.size)).mono hBrq.size))
          | (at_builtin; go_loud (refine wpList_clone_spls rfl _ _ rfl rfl _ _ ua rfl hU11.out hNU (by omega) ?_); intro A12 c12 w12 hS12 hN12 hB12))
        go_roundw
        case rel => exact ⟨k + 1 + s.size / 60, n, by go_num, rfl, by omega, by omega, .inr ⟨k, by omega, HN.out⟩, hBrz⟩
        case measure => simp [intOf]; omega
    · go_wp2_with (go_at_call 18; refine (HW.out wr hBwr).mono ?_; rintro e w9 ⟨rfl, hB9⟩)
      go_ret
      exact ⟨rfl, hBwr.trans (hB9.mono hBwr.size)⟩

set_option maxRecDepth 100000 in
set_option maxHeartbeats 4000000 in
theorem lawUndone_any (s : ByteArray) (l : List Lx.Spl) (A : Option Addr) (c : Nat) (w : World) (hs : s.size ≤ 281474976710656) (hl : l.length ≤ 1152921504606846976) (ht : ∀ x ∈ l, x.text.size ≤ 281474976710656) (hS : Spls w w.heap.size A l) (hN : NilOk A c l.length) (hG : GV w) :
    Calls Tryd.prog 15 #[.string s, .slice A l.length c] w fun e w' => e = .returned (.bool true) ∧ Below w.heap.size w w' := by
  have HW := Lib.hid (fun W (hB : Below w.heap.size w W) => awake_any W (hG.below hB))
  have HF := Lib.hid (few_any l A c w hl ht hS)
  by_cases h1 : s.size ≤ 3000
  · have d1 : decide ((s.size : Int) > 3000) = false := decide_eq_false (by omega)
    cases hf : Lx.fewOf l
    · rw [hf] at HF
      go_enter Tryd.func15, Tryd.ntmps15
      go_wp2_with (first
        | (go_at_call 34; refine HF.out.mono ?_; rintro e w1 ⟨rfl, rfl⟩)
        | (go_at_call 18; refine (HW.out w (Below.refl _ _)).mono ?_; rintro e w9 ⟨rfl, hB9⟩))
      go_ret
      exact ⟨rfl, hB9⟩
    · by_cases h40 : l.length ≤ 40
      · by_cases h0 : (Lx.applyOf s l).2 = 0
        · exact undone_main s l A c w h1 hf h40 h0 hS hN hG
        · rw [hf] at HF
          obtain ⟨hm, _⟩ := Lx.fewOf_mem hf
          have HA := Lib.hid (fun A c W hS => apply_any s l A c W hs (by omega) (fun x hx => by have := hm x hx; omega) hS)
          have d2 : decide ((l.length : Int) > 40) = false := decide_eq_false (by omega)
          have h0' : (((Lx.applyOf s l).2 : Int) != 0) = true := by rw [bne_iff_ne]; omega
          generalize Lx.applyOf s l = R at *
          clear hf h0 hm
          go_enter Tryd.func15, Tryd.ntmps15
          go_wp2_with (first
            | (go_at_call 34; refine HF.out.mono ?_; rintro e w1 ⟨rfl, rfl⟩)
            | (go_at_call 35; refine (HA.out _ _ w2 hS2).mono ?_; rintro e w3 ⟨rfl, hB3⟩; have hB13 := hB2.trans (hB3.mono hB2.size))
            | (at_builtin; go_loud (refine wpList_clone_spls rfl _ _ rfl rfl _ _ l rfl hS hN (by omega) ?_); intro A2 c2 w2 hS2 hN2 hB2)
            | (go_at_call 18; refine (HW.out w3 hB13).mono ?_; rintro e w9 ⟨rfl, hB9⟩; have hB19 := hB13.trans (hB9.mono hB13.size)))
          go_ret
          exact ⟨rfl, hB19⟩
      · rw [hf] at HF
        have d2 : decide ((l.length : Int) > 40) = true := decide_eq_true (by omega)
        clear hf
        go_enter Tryd.func15, Tryd.ntmps15
        go_wp2_with (first
          | (go_at_call 34; refine HF.out.mono ?_; rintro e w1 ⟨rfl, rfl⟩)
          | (go_at_call 18; refine (HW.out w (Below.refl _ _)).mono ?_; rintro e w9 ⟨rfl, hB9⟩))
        go_ret
        exact ⟨rfl, hB9⟩
  · have d1 : decide ((s.size : Int) > 3000) = true := decide_eq_true (by omega)
    go_enter Tryd.func15, Tryd.ntmps15
    go_wp2_with (go_at_call 18; refine (HW.out w (Below.refl _ _)).mono ?_; rintro e w4 ⟨rfl, hB4⟩)
    go_ret
    exact ⟨rfl, hB4⟩

-- CALL: lawUndone_any a0 a1 A1 c1 W (by omega) (by omega) (fun x hx => by have := hT1 x hx; omega) hS1 (fun e => by obtain ⟨h1, h2⟩ := hN1 e; exact ⟨h1, by rw [h2]; rfl⟩) (gv_of_laid hL)
namespace lexUndone
set_option maxRecDepth 100000 in
theorem contract (H : Type) (enc : TypeId × Value → H) (W : World) (base : Nat) (args : Array Value) (ds gs : List (DataW H)) (before : List MemPlace)
    (hval : ∀ (j : Nat) t v, Tryd.f15.params[j]? = some t → args[j]? = some v → Value.okWide Tryd.prog W .any base t v)
    (hW : DataW.Whole enc Tryd.prog Tryd.f15.params.toList Rows.lexUndoneSpec.vars false W args.toList ds gs before)
    (hwt : (DataW.weightsEach Tryd.prog (Tryd.f15.params.toList ++ (OpenSpec.ofChange Rows.lexUndoneSpec).bare.plain.varTypes Tryd.prog) (ds ++ gs)).all (· ≤ reachBytes) = true)
    (hL : laidMetH Tryd.prog Rows.lexUndoneRow.laid W) :
    Calls Tryd.prog 15 args W fun e W' => ∃ v, e = .returned v ∧ Rows.lexUndoneSpec.post enc Tryd.prog Tryd.f15 false true false false W args v W' := by
  have hW' := hW
  obtain ⟨p, q, hA0, hV, rfl, hfz, hnd⟩ := hW
  have hA : DataW.TrodAll enc Tryd.prog W 0 (fun _ => true) true Tryd.f15.params.toList args.toList ds p := hA0
  rw [Tryd.params15] at hA hval hwt
  obtain ⟨v0, vs0, d0, ds0, p0, q0, hargs, rfl, rfl, h0, r0⟩ := trodAll_cons hA
  obtain ⟨v1, vs1, d1, ds1, p1, q1, rfl, rfl, rfl, h1, r1⟩ := trodAll_cons r0
  obtain ⟨rfl, rfl, rfl⟩ := trodAll_nil r1
  obtain rfl : args = #[v0, v1] := by cases args; simp_all
  obtain ⟨rfl, rfl⟩ := trodVars_none hV
  have w0 := reach_of hwt 0 (d := d0) rfl rfl
  obtain ⟨a0, rfl, rfl, rfl, ha0⟩ := Go.ChangeMaps.open_string Tryd.underlying9 (hval 0 9 v0 rfl rfl) h0
  have s0 : a0.size ≤ reachBytes := by simpa using reach_string w0
  have w1 := reach_of hwt 1 (d := d1) rfl rfl
  obtain ⟨A1, c1, a1, rfl, hS1, hT1, hl1, hN1⟩ := open_spls (hval 1 45 v1 rfl rfl) h1 w1
  clear hA0
  unfold reachBytes at *
  refine (lawUndone_any a0 a1 A1 c1 W (by omega) (by omega) (fun x hx => by have := hT1 x hx; omega) hS1 (fun e => by obtain ⟨h1, h2⟩ := hN1 e; exact ⟨h1, by rw [h2]; rfl⟩) (gv_of_laid hL)).mono fun e W' ⟨he, hB⟩ => ?_
  subst he
  exact ⟨_, rfl, law_post hW' hB rfl rfl (by
    rw [Tryd.params15]
    exact (fun t ht => by
      simp only [List.mem_cons, List.not_mem_nil, or_false] at ht
      rcases ht with rfl | rfl <;> exact ⟨by kernel_rfl, of_decide_eq_true (by kernel_rfl)⟩)) rfl rfl rfl⟩

def wargs : Array Value := #[.string ⟨#[]⟩, .slice none 0 0]
theorem reads (os : Os) {H : Type} (enc : TypeId × Value → H) : ∃ places, DataW.whole enc Tryd.prog ((laidWorld os #[]).forCall (fun _ _ => 0) ⟨#[], wargs, []⟩).memory Tryd.f15.params.toList Rows.lexUndoneSpec.vars false wargs.toList 8 = some ([.lit (.string []), .nil], [], places) :=
  ⟨[], by kernel_rfl⟩

set_option maxRecDepth 100000 in
theorem lifted (os : Os) (started : os.Started) (H : Type) (enc : TypeId × Value → H) (F : Stop.Interp) :
    ReturnsInHanded {} Tryd.checked os 15 .any ((OpenSpec.ofChange Rows.lexUndoneSpec).preRow enc Tryd.prog Tryd.f15 Rows.lexUndoneRow.domain false Rows.lexUndoneRow.laid) (((OpenSpec.ofChange Rows.lexUndoneSpec).at F).post enc Tryd.prog Tryd.f15 false true false false) := by
  obtain ⟨places, hx⟩ := reads os enc
  refine returnsInHanded_of_row (C := Tryd.checked) (s := OpenSpec.ofChange Rows.lexUndoneSpec) ownK started (by kernel_rfl) Tryd.func15
    (witness_row_at (enc := enc) (C := Tryd.checked) false (laidWorld os #[]) wargs rfl (varsK os wargs) (restK os wargs) (by kernel_rfl)
      (OpenSpec.preRow_of_cond 8 hx (by kernel_rfl) (fun k hk => by cases hk) (by kernel_rfl) (laid_metK os wargs))) ?_
  intro W base args ds gs before hval hW _ _ hwt hL _ _
  exact contract H enc W base args ds gs before hval hW hwt hL

theorem said : Rows.LexUndoneSaid :=
  OpenClaim.holds_of_cond 15 Tryd.f15 rfl rfl rfl rfl rfl rfl rfl ⟨rfl, rfl, rfl, rfl, rfl⟩ rfl rfl rfl rfl rfl (by kernel_rfl) Tryd.func15 (by kernel_rfl)
    (of_decide_eq_true (by kernel_rfl)) (by unfold Func.isWrapper; first | (rw [if_pos (by decide +kernel)]; kernel_rfl) | (rw [if_neg (by decide +kernel)]; exact ⟨rfl, rfl⟩))
    (fun os started H enc _ F => by rw [OpenClaim.pre_eq_preRow]; exact lifted os started H enc F)

theorem plain (f : FuncId) (fn : Func) (hf : Tryd.pinned.checked.prog.funcNamed "riposte/ripostelaw01.LexUndone" = some f) (hfn : Tryd.pinned.checked.prog.funcs[f]? = some fn) :
    true = Tryd.pinned.checked.prog.looks [] ∧ ∀ (j : Nat) t, fn.params[j]? = some t → Tryd.pinned.checked.prog.wantsStandIn t = false := by
  obtain rfl : f = 15 := Option.some.inj ((show Tryd.prog.funcNamed "riposte/ripostelaw01.LexUndone" = some 15 by kernel_rfl).symm.trans hf) |>.symm
  obtain rfl : fn = Tryd.f15 := (Option.some.inj (Tryd.func15.symm.trans hfn)).symm
  refine ⟨by kernel_rfl, fun j t ht => ?_⟩
  rw [Tryd.params15] at ht
  exact (show ∀ t ∈ [9, 45], Tryd.prog.wantsStandIn t = false by
    intro t ht
    simp only [List.mem_cons, List.not_mem_nil, or_false] at ht
    rcases ht with rfl | rfl <;> kernel_rfl) t (by simpa using Array.mem_of_getElem? ht)

theorem card : Rows.LexUndoneCardSaid :=
  Claim7.holds_tied_plain_at .later [] _ _ _ _ said (fun _ h => by cases h) (by kernel_rfl) (fun _ h => by cases h) lexUndone_row_tie rfl ⟨rfl, rfl⟩ (by kernel_rfl) rfl plain (by kernel_rfl)
end lexUndone
end Go.Proofs.YtlkhlemafkfcbaaDoor
