/-
  What is proved: the place of the spot of a place is this place; the spot of the place behind it is greater (P1.11), at any text of at most 300 bytes; at longer ones the examples hold. Conditions: the listed package-level variables begin as the program's text lays them (the card ties them).
-/
import Derived.Test.YtchkngabppmbkaaDoorLexZW
import Derived.Test.YtchkngabppmbkaaDoorLexJ
import Derived.Test.YtchkngabppmbkaaDoorLexQ
import Derived.Test.YtchkngabppmbkaaDoorLexW
namespace Go.Proofs.YtchkngabppmbkaaDoor
open Go.ChangeShapes Go.WideShapes Go.ChangeAt Go.RowKit

theorem pbox_next {W W' : World} {b : Nat} {o : Obj} (h : W.heap[b]? = some o) (hB : Below W.heap.size W W') : W'.heap[b]? = some o := (hB.block _ (Array.getElem?_eq_some_iff.1 h).1).trans h
theorem pbox_lay {W : World} {b : Nat} {o : Obj} (h : W.heap[b]? = some o) (o' : Obj) : (W.alloc o').heap[b]? = some o := pbox_next h ((Below.refl _ _).alloc (Nat.le_refl _) _)

set_option maxRecDepth 100000 in
set_option maxHeartbeats 4000000 in
theorem places_main (s : ByteArray) (w : World) (hs : s.size ≤ 300) (h0 : (Lx.textErr s).2 = 0) (hG : GV w) :
    Calls Tryd.prog 13 #[.string s] w fun e w' => e = .returned (.bool true) ∧ Below w.heap.size w w' := by
  have HW := Lib.hid (fun W (hB : Below w.heap.size w W) => awake_any W (hG.below hB))
  have HN := Lib.hid (notes_any s (by omega) w hG)
  have hn0 : (Lx.notesOf s).2 = 0 := by unfold Lx.notesOf; rw [if_neg (by omega)]
  rw [hn0] at HN
  have HS := Lib.hid (fun (k : Nat) (hk : k ≤ s.size) W => spot_any s (k : Int) (by omega) W)
  have HA := Lib.hid (fun (k : Nat) (hk : k ≤ s.size) W => at_any s (Lx.spotAt s k).1 (Lx.spotAt s k).2 (by omega) W)
  have HQ : Hid (∀ k, k ≤ s.size → Lx.spotOf s (k : Int) = (Lx.spotAt s k, 0)) := fun k hk => Lx.spotOf_in h0 hk
  have HQ2 : Hid (∀ k, k ≤ s.size → Lx.atOf s (Lx.spotAt s k).1 (Lx.spotAt s k).2 = (k, 0)) := fun k hk => Lx.atOf_spot h0 hk
  have d1 : decide ((s.size : Int) > 300) = false := decide_eq_false (by omega)
  clear hG hn0 h0
  go_enter Tryd.func13, Tryd.ntmps13
  go_wp2_with (go_at_call 21; refine HN.out.mono ?_; rintro e w1 ⟨nv, rfl, _, hB1⟩)
  have hp0 := World.alloc_heap_new w1 (.cells #[.int .i64 0, .int .i64 0] 32)
  have hB0 : Below w.heap.size w (w1.alloc (.cells #[.int .i64 0, .int .i64 0] 32)) := hB1.alloc hB1.size _
  have hsz := hB1.size
  generalize w1.alloc (.cells #[.int .i64 0, .int .i64 0] 32) = W0 at *
  have HP0 := Lib.hid hp0
  clear hp0 hB1
  go_loopw [6] (fun i wr => ∃ (k : Nat) (p : Nat × Nat), k ≤ s.size + 1 ∧ i = .int .i64 k ∧ Hid (wr.heap[w1.heap.size]? = some (spotO p)) ∧ (p.1 < (Lx.spotAt s k).1 ∨ (p.1 = (Lx.spotAt s k).1 ∧ p.2 < (Lx.spotAt s k).2)) ∧ Below w.heap.size w wr) (fun i _ => s.size + 1 - (intOf i).toNat)
  case atStart => exact ⟨0, (0, 0), Nat.zero_le _, rfl, HP0, .inl (by simp [Lx.spotAt]), hB0⟩
  case round =>
    obtain ⟨k, ⟨pl, pc⟩, hk, rfl, hpr, hlt, hB⟩ := hrel
    clear HP0 hB0
    have hszr := hB.size
    by_cases hks : k ≤ s.size
    · have hd : decide ((k : Int) ≤ (s.size : Int)) = true := decide_eq_true (by omega)
      have hs1 := HS.out k hks
      have ha1 := HA.out k hks
      rw [HQ.out k hks] at hs1
      rw [HQ2.out k hks] at ha1
      unfold spotRes at hs1
      unfold atRes at ha1
      simp only [Int.natCast_zero] at hs1 ha1
      have hle := Lx.spotAt_le s k
      have HST := Lib.hid (Lx.spotAt_step s k)
      generalize hln : (Lx.spotAt s k).1 = ln at *
      generalize hcl : (Lx.spotAt s k).2 = cl at *
      have HLN := Lib.hid hln; have HCL := Lib.hid hcl
      have HS1 := Lib.hid hs1; have HA1 := Lib.hid ha1
      clear hln hcl hs1 ha1
      simp only at hlt
      rcases hlt with hl | ⟨hl, hc⟩
      · have q1 : decide ((ln : Int) < (pl : Int)) = false := decide_eq_false (by omega)
        have q2 : ((ln : Int) == (pl : Int)) = false := by rw [beq_eq_false_iff_ne]; omega
        have q4 : (ln : Int) ≠ (pl : Int) := by omega
        have q5 : ¬ ((ln : Int) < (pl : Int)) := by omega
        go_wp2_with (first
          | (go_at_call 26; refine (HA1.out _).mono ?_; rintro e w3 ⟨rfl, hB3⟩; have hBw3 := hBw2a.trans (hB3.mono hBw2a.size); have hB7 := pbox_next (World.alloc_heap_new w2 (.cells #[.int .i64 (ln : Int), .int .i64 (cl : Int)] 32)) hB3; have hB5 := pbox_next (pbox_lay B52.out (.cells #[.int .i64 (ln : Int), .int .i64 (cl : Int)] 32)) hB3; obtain ⟨r0, r1, _, _⟩ := pair_cells hB7; obtain ⟨p0, p1, g0, g1⟩ := pair_cells (x := .int .i64 (pl : Int)) (y := .int .i64 (pc : Int)) hB5; have U := Lib.hid (pair_set1 (x := .int .i64 (cl : Int)) (pair_set0 (x := .int .i64 (ln : Int)) hB5)); clear hB7 hB5)
          | (go_at_call 24; refine (HS1.out wr).mono ?_; rintro e w2 ⟨rfl, hB2⟩; have hBw2 := hB.trans (hB2.mono hB.size); have hBw2a := hBw2.alloc hBw2.size (.cells #[.int .i64 (ln : Int), .int .i64 (cl : Int)] 32); obtain ⟨m0, m1, _, _⟩ := pair_cells (World.alloc_heap_new w2 (.cells #[.int .i64 (ln : Int), .int .i64 (cl : Int)] 32)); have B52 := Lib.hid (pbox_next hpr.out hB2)))
        go_roundw
        case rel =>
          refine ⟨k + 1, (ln, cl), by omega, by go_num, U.out, ?_, (hBw3.setCell (p := ⟨w1.heap.size, 0, none⟩) hsz _).setCell (p := ⟨w1.heap.size, 1, none⟩) hsz _⟩
          have := HST.out
          simpa using this
        case measure => simp [intOf]; omega
      · subst hl
        have q1 : decide ((pl : Int) < (pl : Int)) = false := decide_eq_false (by omega)
        have q2 : ((pl : Int) == (pl : Int)) = true := by rw [beq_iff_eq]
        have q3 : decide ((cl : Int) ≤ (pc : Int)) = false := decide_eq_false (by omega)
        have q5 : ¬ ((cl : Int) ≤ (pc : Int)) := by omega
        go_wp2_with (first
          | (go_at_call 26; refine (HA1.out _).mono ?_; rintro e w3 ⟨rfl, hB3⟩; have hBw3 := hBw2a.trans (hB3.mono hBw2a.size); have hB7 := pbox_next (World.alloc_heap_new w2 (.cells #[.int .i64 (pl : Int), .int .i64 (cl : Int)] 32)) hB3; have hB5 := pbox_next (pbox_lay B52.out (.cells #[.int .i64 (pl : Int), .int .i64 (cl : Int)] 32)) hB3; obtain ⟨r0, r1, _, _⟩ := pair_cells hB7; obtain ⟨p0, p1, g0, g1⟩ := pair_cells (x := .int .i64 (pl : Int)) (y := .int .i64 (pc : Int)) hB5; have U := Lib.hid (pair_set1 (x := .int .i64 (cl : Int)) (pair_set0 (x := .int .i64 (pl : Int)) hB5)); clear hB7 hB5)
          | (go_at_call 24; refine (HS1.out wr).mono ?_; rintro e w2 ⟨rfl, hB2⟩; have hBw2 := hB.trans (hB2.mono hB.size); have hBw2a := hBw2.alloc hBw2.size (.cells #[.int .i64 (pl : Int), .int .i64 (cl : Int)] 32); obtain ⟨m0, m1, _, _⟩ := pair_cells (World.alloc_heap_new w2 (.cells #[.int .i64 (pl : Int), .int .i64 (cl : Int)] 32)); have B52 := Lib.hid (pbox_next hpr.out hB2)))
        go_roundw
        case rel =>
          refine ⟨k + 1, (pl, cl), by omega, by go_num, U.out, ?_, (hBw3.setCell (p := ⟨w1.heap.size, 0, none⟩) hsz _).setCell (p := ⟨w1.heap.size, 1, none⟩) hsz _⟩
          have := HST.out
          simpa using this
        case measure => simp [intOf]; omega
    · obtain rfl : k = s.size + 1 := by omega
      have hd : decide (((s.size + 1 : Nat) : Int) ≤ (s.size : Int)) = false := decide_eq_false (by omega)
      go_wp2_with (go_at_call 18; refine (HW.out wr hB).mono ?_; rintro e w9 ⟨rfl, hB9⟩)
      go_ret
      exact ⟨rfl, hB.trans (hB9.mono hB.size)⟩

set_option maxRecDepth 100000 in
set_option maxHeartbeats 4000000 in
theorem lawPlaces_any (s : ByteArray) (w : World) (hs : s.size ≤ 281474976710656) (hG : GV w) :
    Calls Tryd.prog 13 #[.string s] w fun e w' => e = .returned (.bool true) ∧ Below w.heap.size w w' := by
  by_cases h1 : s.size ≤ 300
  · by_cases h0 : (Lx.textErr s).2 = 0
    · exact places_main s w h1 h0 hG
    · have HW := Lib.hid (fun W (hB : Below w.heap.size w W) => awake_any W (hG.below hB))
      have hn := notes_any s hs w hG
      have hn0 : (Lx.notesOf s).2 = (Lx.textErr s).2 := by unfold Lx.notesOf; rw [if_pos h0]
      rw [hn0] at hn
      generalize (Lx.textErr s).2 = er at *
      have HN := Lib.hid hn
      have d1 : decide ((s.size : Int) > 300) = false := decide_eq_false (by omega)
      have h0' : ((er : Int) != 0) = true := by rw [bne_iff_ne]; omega
      clear hn hn0 h0 hG
      go_enter Tryd.func13, Tryd.ntmps13
      go_wp2_with (first
        | (go_at_call 18; refine (HW.out w1 hB1).mono ?_; rintro e w9 ⟨rfl, hB9⟩)
        | (go_at_call 21; refine HN.out.mono ?_; rintro e w1 ⟨nv, rfl, _, hB1⟩))
      go_ret
      exact ⟨rfl, hB1.trans (hB9.mono hB1.size)⟩
  · have HW := Lib.hid (fun W (hB : Below w.heap.size w W) => awake_any W (hG.below hB))
    have d1 : decide ((s.size : Int) > 300) = true := decide_eq_true (by omega)
    go_enter Tryd.func13, Tryd.ntmps13
    go_wp2_with (go_at_call 18; refine (HW.out w (Below.refl _ _)).mono ?_; rintro e w9 ⟨rfl, hB9⟩)
    go_ret
    exact ⟨rfl, hB9⟩

-- CALL: lawPlaces_any a0 W (by omega) (gv_of_laid hL)
namespace lexPlaces
set_option maxRecDepth 100000 in
theorem contract (H : Type) (enc : TypeId × Value → H) (W : World) (base : Nat) (args : Array Value) (ds gs : List (DataW H)) (before : List MemPlace)
    (hval : ∀ (j : Nat) t v, Tryd.f13.params[j]? = some t → args[j]? = some v → Value.okWide Tryd.prog W .any base t v)
    (hW : DataW.Whole enc Tryd.prog Tryd.f13.params.toList Rows.lexPlacesSpec.vars false W args.toList ds gs before)
    (hwt : (DataW.weightsEach Tryd.prog (Tryd.f13.params.toList ++ (OpenSpec.ofChange Rows.lexPlacesSpec).bare.plain.varTypes Tryd.prog) (ds ++ gs)).all (· ≤ reachBytes) = true)
    (hL : laidMetH Tryd.prog Rows.lexPlacesRow.laid W) :
    Calls Tryd.prog 13 args W fun e W' => ∃ v, e = .returned v ∧ Rows.lexPlacesSpec.post enc Tryd.prog Tryd.f13 false true false false W args v W' := by
  have hW' := hW
  obtain ⟨p, q, hA0, hV, rfl, hfz, hnd⟩ := hW
  have hA : DataW.TrodAll enc Tryd.prog W 0 (fun _ => true) true Tryd.f13.params.toList args.toList ds p := hA0
  rw [Tryd.params13] at hA hval hwt
  obtain ⟨v0, vs0, d0, ds0, p0, q0, hargs, rfl, rfl, h0, r0⟩ := trodAll_cons hA
  obtain ⟨rfl, rfl, rfl⟩ := trodAll_nil r0
  obtain rfl : args = #[v0] := by cases args; simp_all
  obtain ⟨rfl, rfl⟩ := trodVars_none hV
  have w0 := reach_of hwt 0 (d := d0) rfl rfl
  obtain ⟨a0, rfl, rfl, rfl, ha0⟩ := Go.ChangeMaps.open_string Tryd.underlying9 (hval 0 9 v0 rfl rfl) h0
  have s0 : a0.size ≤ reachBytes := by simpa using reach_string w0
  clear hA0
  unfold reachBytes at *
  refine (lawPlaces_any a0 W (by omega) (gv_of_laid hL)).mono fun e W' ⟨he, hB⟩ => ?_
  subst he
  exact ⟨_, rfl, law_post hW' hB rfl rfl (by
    rw [Tryd.params13]
    exact (fun t ht => by
      simp only [List.mem_cons, List.not_mem_nil, or_false] at ht
      rcases ht with rfl <;> exact ⟨by kernel_rfl, of_decide_eq_true (by kernel_rfl)⟩)) rfl rfl rfl⟩

def wargs : Array Value := #[.string ⟨#[]⟩]
theorem reads (os : Os) {H : Type} (enc : TypeId × Value → H) : ∃ places, DataW.whole enc Tryd.prog ((laidWorld os #[]).forCall (fun _ _ => 0) ⟨#[], wargs, []⟩).memory Tryd.f13.params.toList Rows.lexPlacesSpec.vars false wargs.toList 8 = some ([.lit (.string [])], [], places) :=
  ⟨[], by kernel_rfl⟩

set_option maxRecDepth 100000 in
theorem lifted (os : Os) (started : os.Started) (H : Type) (enc : TypeId × Value → H) (F : Stop.Interp) :
    ReturnsInHanded {} Tryd.checked os 13 .any ((OpenSpec.ofChange Rows.lexPlacesSpec).preRow enc Tryd.prog Tryd.f13 Rows.lexPlacesRow.domain false Rows.lexPlacesRow.laid) (((OpenSpec.ofChange Rows.lexPlacesSpec).at F).post enc Tryd.prog Tryd.f13 false true false false) := by
  obtain ⟨places, hx⟩ := reads os enc
  refine returnsInHanded_of_row (C := Tryd.checked) (s := OpenSpec.ofChange Rows.lexPlacesSpec) ownK started (by kernel_rfl) Tryd.func13
    (witness_row_at (enc := enc) (C := Tryd.checked) false (laidWorld os #[]) wargs rfl (varsK os wargs) (restK os wargs) (by kernel_rfl)
      (OpenSpec.preRow_of_cond 8 hx (by kernel_rfl) (fun k hk => by cases hk) (by kernel_rfl) (laid_metK os wargs))) ?_
  intro W base args ds gs before hval hW _ _ hwt hL _ _
  exact contract H enc W base args ds gs before hval hW hwt hL

theorem said : Rows.LexPlacesSaid :=
  OpenClaim.holds_of_cond 13 Tryd.f13 rfl rfl rfl rfl rfl rfl rfl ⟨rfl, rfl, rfl, rfl, rfl⟩ rfl rfl rfl rfl rfl (by kernel_rfl) Tryd.func13 (by kernel_rfl)
    (of_decide_eq_true (by kernel_rfl)) (by unfold Func.isWrapper; first | (rw [if_pos (by decide +kernel)]; kernel_rfl) | (rw [if_neg (by decide +kernel)]; exact ⟨rfl, rfl⟩))
    (fun os started H enc _ F => by rw [OpenClaim.pre_eq_preRow]; exact lifted os started H enc F)

theorem plain (f : FuncId) (fn : Func) (hf : Tryd.pinned.checked.prog.funcNamed "riposte/ripostelaw01.LexPlaces" = some f) (hfn : Tryd.pinned.checked.prog.funcs[f]? = some fn) :
    true = Tryd.pinned.checked.prog.looks [] ∧ ∀ (j : Nat) t, fn.params[j]? = some t → Tryd.pinned.checked.prog.wantsStandIn t = false := by
  obtain rfl : f = 13 := Option.some.inj ((show Tryd.prog.funcNamed "riposte/ripostelaw01.LexPlaces" = some 13 by kernel_rfl).symm.trans hf) |>.symm
  obtain rfl : fn = Tryd.f13 := (Option.some.inj (Tryd.func13.symm.trans hfn)).symm
  refine ⟨by kernel_rfl, fun j t ht => ?_⟩
  rw [Tryd.params13] at ht
  exact (show ∀ t ∈ [9], Tryd.prog.wantsStandIn t = false by
    intro t ht
    simp only [List.mem_cons, List.not_mem_nil, or_false] at ht
    rcases ht with rfl <;> kernel_rfl) t (by simpa using Array.mem_of_getElem? ht)

theorem card : Rows.LexPlacesCardSaid :=
  Claim7.holds_tied_plain_at .later [] _ _ _ _ said (fun _ h => by cases h) (by kernel_rfl) (fun _ h => by cases h) lexPlaces_row_tie rfl ⟨rfl, rfl⟩ (by kernel_rfl) rfl plain (by kernel_rfl)
end lexPlaces
end Go.Proofs.YtchkngabppmbkaaDoor
