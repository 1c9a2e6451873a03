/-
  WALKS: the reference's places.
-/
import Derived.Test.YtbfpgjnagpcbeaaGreatDoorDd
import Derived.Test.YtbfpgjnagpcbeaaGreatDoorPb
import Derived.Test.YtbfpgjnagpcbeaaGreatDoorBx
namespace Go.Proofs.YtbfpgjnagpcbeaaGreatDoor
open Go.RowKit Go.Shelf

namespace Ar
def zeroB : Bs := ⟨false, 0⟩
def foundB (a : Are) (id arg : Int) : Bs := (placeOf a id arg).getD zeroB
end Ar
def plVal (o : Option Ar.Bs) : Value := .tuple #[.agg #[.bool (o.getD Ar.zeroB).cell, .int .i64 (o.getD Ar.zeroB).n], .bool o.isSome]
/-- Whether a number lies between two. -/
def InIs (n l h : Int) (R : Bool) : Prop := (decide (l ≤ n) && decide (n ≤ h)) = R
theorem in_is {n l h : Int} {R : Bool} (hr : InIs n l h R) (w : World) : Calls Tryz.prog 89 #[.int .i64 n, .int .i64 l, .int .i64 h] w fun e w' => e = .returned (.bool R) ∧ w' = w :=
  (refIn_any n l h w).mono fun e w' ⟨he, hw⟩ => ⟨by rw [he, show _ = R from hr], hw⟩
theorem inIs_yes {n l h : Int} (h1 : l ≤ n) (h2 : n ≤ h) : InIs n l h true := by unfold InIs; rw [decide_eq_true h1, decide_eq_true h2]; rfl
theorem inIs_no {n l h : Int} (h1 : n < l ∨ h < n) : InIs n l h false := by
  unfold InIs
  rcases h1 with h1 | h1
  · rw [decide_eq_false (show ¬ l ≤ n by omega)]; rfl
  · rw [decide_eq_false (show ¬ n ≤ h by omega), Bool.and_false]

set_option maxRecDepth 100000 in
set_option maxHeartbeats 4000000 in
theorem refPlace_any (a : Ar.Are) (A : Option Addr) (c : Nat) (P : Nat → Option Addr × Nat) (id arg : Int) (w : World) (hA : ArM w A P a) :
    Calls Tryz.prog 88 #[arV A c a, .int .i64 id, .int .i64 arg] w fun e w' => e = .returned (plVal (Ar.placeOf a id arg)) ∧ Below w.heap.size w w' := by
  have hlen := hA.len
  have hav : arV A c a = .agg #[.slice A a.ids.length c, .bool a.root.cell, .int .i64 a.root.n, .bool a.jumps] := rfl
  rw [hav]
  have hB0 := Lib.hid (below_two (w := w) (.cells #[.slice A a.ids.length c, .bool a.root.cell, .int .i64 a.root.n, .bool a.jumps] 26 (0, 0)) (.cells #[.bool false, .int .i64 0] 24 (0, 0)))
  have h1 := Lib.hid (two_new1 w (.cells #[.slice A a.ids.length c, .bool a.root.cell, .int .i64 a.root.n, .bool a.jumps] 26 (0, 0)) (.cells #[.bool false, .int .i64 0] 24 (0, 0)))
  have h2 := Lib.hid (two_new2 w (.cells #[.slice A a.ids.length c, .bool a.root.cell, .int .i64 a.root.n, .bool a.jumps] 26 (0, 0)) (.cells #[.bool false, .int .i64 0] 24 (0, 0)))
  obtain ⟨e0, e1, e2, e3, -, -, -, -⟩ := cells4 h1.out
  obtain ⟨r0, r1, s0, s1⟩ := cells2 h2.out
  have hpo : Ar.placeOf a id arg = if id = 0 ∧ arg = 0 then some a.root
    else if id < 1 ∨ (a.ids.length : Int) < id then none
    else match a.ids[(id - 1).toNat]? with
    | none => none
    | some t => if arg = 0 then some t.result else if arg < 1 ∨ (t.params.length : Int) < arg then none else t.params[(arg - 1).toNat]? := rfl
  unfold plVal
  have HT := Lib.hid hA
  clear hA hav
  by_cases h0 : id = 0 ∧ arg = 0
  · rw [hpo, if_pos h0]
    obtain ⟨rfl, rfl⟩ := h0
    clear hpo
    go_enter Tryz.func88, Tryz.ntmps88
    go_wp2
    refine bodyPost_ret (v := .tuple #[.agg #[.bool a.root.cell, .int .i64 a.root.n], .bool true]) (by simp [results, Tryz.results88, go_sem]) rfl ⟨rfl, below_two _ _⟩
  · rw [if_neg h0] at hpo
    have hg : ((id == 0) && (arg == 0)) = false := by
      rw [Bool.and_eq_false_iff, beq_eq_false_iff_ne, beq_eq_false_iff_ne]
      by_cases h : id = 0
      · exact .inr (fun e => h0 ⟨h, e⟩)
      · exact .inl h
    by_cases h3 : id < 1 ∨ (a.ids.length : Int) < id
    · rw [hpo, if_pos h3]
      clear hpo
      by_cases hi0 : id = 0
      · subst hi0
        have ha0 : ¬ arg = 0 := fun e => h0 ⟨rfl, e⟩
        have HI := inIs_no h3
        clear h0 hg h3
        go_enter Tryz.func88, Tryz.ntmps88
        go_wp2_with (go_at_call 89; refine (in_is (by assumption) _).mono ?_; rintro e w2 ⟨rfl, rfl⟩)
        refine bodyPost_ret (v := .tuple #[.agg #[.bool false, .int .i64 0], .bool false]) (by simp [results, Tryz.results88, go_sem, r0, r1]) rfl ⟨rfl, below_two _ _⟩
      · have HI := inIs_no h3
        clear h0 hg h3
        go_enter Tryz.func88, Tryz.ntmps88
        go_wp2_with (go_at_call 89; refine (in_is (by assumption) _).mono ?_; rintro e w2 ⟨rfl, rfl⟩)
        refine bodyPost_ret (v := .tuple #[.agg #[.bool false, .int .i64 0], .bool false]) (by simp [results, Tryz.results88, go_sem, r0, r1]) rfl ⟨rfl, below_two _ _⟩
    · rw [if_neg h3] at hpo
      obtain ⟨k, rfl⟩ : ∃ k : Nat, id = (k : Int) + 1 := ⟨(id - 1).toNat, by omega⟩
      have hk : k < a.ids.length := by omega
      obtain ⟨t, ht⟩ : ∃ t, a.ids[k]? = some t := ⟨_, List.getElem?_eq_getElem hk⟩
      rw [show ((k : Int) + 1 - 1).toNat = k by omega, ht] at hpo
      simp only at hpo
      have ht5 := HT.out.par t (List.mem_of_getElem? ht)
      obtain ⟨b, off, hAe, hbB, hc⟩ := (HT.out.tys) (by intro e; rw [e] at hk; simp at hk)
      obtain ⟨c0, c1, c2, hbas⟩ := hc k t ht
      have HBAS := Lib.hid hbas
      have x0 := (hB0.out.cell (p := ⟨b, off + k * 3, none⟩) hbB).trans c0
      have x1 := (hB0.out.cell (p := ⟨b, off + k * 3 + 1, none⟩) hbB).trans c1
      have x2 := (hB0.out.cell (p := ⟨b, off + k * 3 + 2, none⟩) hbB).trans c2
      have HI1 := inIs_yes (n := (k : Int) + 1) (l := 1) (h := (a.ids.length : Int)) (by omega) (by omega)
      generalize (P k).1 = PA at *
      generalize (P k).2 = pc at *
      have hkk : (k : Int) + 1 - 1 = (k : Int) := by omega
      have hw1 : IntKind.i64.wrap ((k : Int) + 1 - 1) = (k : Int) := by rw [hkk]; exact IntWalk.i64_in _ (by omega)
      have hw2 : IntKind.i64.wrap (k : Int) = (k : Int) := IntWalk.i64_in _ (by omega)
      have hb0 : (0 : Int) ≤ (k : Int) := by omega
      have hb1 : (k : Int) < (a.ids.length : Int) := by omega
      have hb2 : (k : Int) ≤ (a.ids.length : Int) := by omega
      have hne : ((k : Int) + 1 == 0) = false := by rw [beq_eq_false_iff_ne]; omega
      have n3 : b ≠ w.heap.size + 1 := by omega
      clear hc c0 c1 c2 ht hbas h0 hg h3
      subst hAe
      by_cases ha : arg = 0
      · rw [hpo, if_pos ha]
        subst ha
        clear hpo
        go_enter Tryz.func88, Tryz.ntmps88
        go_wp2_with (go_at_call 89; refine (in_is (by assumption) _).mono ?_; rintro e w2 ⟨rfl, rfl⟩)
        refine bodyPost_ret (v := .tuple #[.agg #[.bool t.result.cell, .int .i64 t.result.n], .bool true]) (by simp [results, Tryz.results88, go_sem]) rfl ⟨rfl, (below_two _ _).alloc (by rw [size_alloc, size_alloc]; omega) _⟩
      · rw [if_neg ha] at hpo
        obtain ⟨hB3, q1, q2, q3, -⟩ := three_blocks w (.cells #[.slice (some ⟨b, off, none⟩) a.ids.length c, .bool a.root.cell, .int .i64 a.root.n, .bool a.jumps] 26 (0, 0)) (.cells #[.bool false, .int .i64 0] 24 (0, 0)) (.cells #[.slice PA t.params.length pc, .bool t.result.cell, .int .i64 t.result.n] 64 (0, 0))
        by_cases h4 : arg < 1 ∨ (t.params.length : Int) < arg
        · rw [hpo, if_pos h4]
          have HI2 := inIs_no h4
          clear hpo h4 q1 q2 q3
          go_enter Tryz.func88, Tryz.ntmps88
          go_wp2_with (go_at_call 89; refine (in_is (by assumption) _).mono ?_; rintro e w2 ⟨rfl, rfl⟩)
          refine bodyPost_ret (v := .tuple #[.agg #[.bool false, .int .i64 0], .bool false]) (by simp [results, Tryz.results88, go_sem]) rfl ⟨rfl, hB3⟩
        · rw [if_neg h4] at hpo
          obtain ⟨j, rfl⟩ : ∃ j : Nat, arg = (j : Int) + 1 := ⟨(arg - 1).toNat, by omega⟩
          have hj : j < t.params.length := by omega
          obtain ⟨x, hx⟩ : ∃ x, t.params[j]? = some x := ⟨_, List.getElem?_eq_getElem hj⟩
          rw [hpo, show ((j : Int) + 1 - 1).toNat = j by omega, hx]
          obtain ⟨pb, poff, hpa, hpB, hpc⟩ := HBAS.out (by intro e; rw [e] at hj; simp at hj)
          obtain ⟨y0, y1⟩ := hpc j x hx
          have HI2 := inIs_yes (n := (j : Int) + 1) (l := 1) (h := (t.params.length : Int)) (by omega) (by omega)
          subst hpa
          have z0 := (hB3.cell (p := ⟨pb, poff + j * 2, none⟩) hpB).trans y0
          have z1 := (hB3.cell (p := ⟨pb, poff + j * 2 + 1, none⟩) hpB).trans y1
          have hjj : (j : Int) + 1 - 1 = (j : Int) := by omega
          have jw1 : IntKind.i64.wrap ((j : Int) + 1 - 1) = (j : Int) := by rw [hjj]; exact IntWalk.i64_in _ (by omega)
          have jw2 : IntKind.i64.wrap (j : Int) = (j : Int) := IntWalk.i64_in _ (by omega)
          have jb0 : (0 : Int) ≤ (j : Int) := by omega
          have jb1 : (j : Int) < (t.params.length : Int) := by omega
          have jb2 : (j : Int) ≤ (t.params.length : Int) := by omega
          have jne : ((j : Int) + 1 == 0) = false := by rw [beq_eq_false_iff_ne]; omega
          clear hpo h4 hpc hx y0 y1 q1 q2 q3 ha
          go_enter Tryz.func88, Tryz.ntmps88
          go_wp2_with (go_at_call 89; refine (in_is (by assumption) _).mono ?_; rintro e w2 ⟨rfl, rfl⟩)
          refine bodyPost_ret (v := .tuple #[.agg #[.bool x.cell, .int .i64 x.n], .bool true]) (by simp [results, Tryz.results88, go_sem]) rfl ⟨rfl, (below_two _ _).alloc (by rw [size_alloc, size_alloc]; omega) _⟩

/-- A place found by the reference, or the error. -/
def fdVal (a : Ar.Are) (id arg : Int) : Value := .tuple #[.agg #[.bool (Ar.placeRes a id arg).cell, .int .i64 (Ar.placeRes a id arg).n], .int .i64 (Ar.placeErr a id arg : Int)]
theorem Ar.at_of (a : Ar.Are) (id arg : Int) : Ar.atOf a id arg = (Ar.placeOf a id arg).map fun b => ⟨b, id, arg, Ar.escapesOf a id arg⟩ := Ar.at_eq a id arg
set_option maxRecDepth 100000 in
set_option maxHeartbeats 4000000 in
theorem refFound_any (a : Ar.Are) (A : Option Addr) (c : Nat) (P : Nat → Option Addr × Nat) (id arg : Int) (w : World) (hA : ArM w A P a) :
    Calls Tryz.prog 37 #[arV A c a, .int .i64 id, .int .i64 arg] w fun e w' => e = .returned (fdVal a id arg) ∧ Below w.heap.size w w' := by
  have hav : arV A c a = .agg #[.slice A a.ids.length c, .bool a.root.cell, .int .i64 a.root.n, .bool a.jumps] := rfl
  have hB0 := below_two (w := w) (.cells #[.slice A a.ids.length c, .bool a.root.cell, .int .i64 a.root.n, .bool a.jumps] 26 (0, 0)) (.cells #[.bool false, .int .i64 0] 24 (0, 0))
  have h1 := Lib.hid (two_new1 w (.cells #[.slice A a.ids.length c, .bool a.root.cell, .int .i64 a.root.n, .bool a.jumps] 26 (0, 0)) (.cells #[.bool false, .int .i64 0] 24 (0, 0)))
  have h2 := Lib.hid (two_new2 w (.cells #[.slice A a.ids.length c, .bool a.root.cell, .int .i64 a.root.n, .bool a.jumps] 26 (0, 0)) (.cells #[.bool false, .int .i64 0] 24 (0, 0)))
  have HC := Lib.hid (refCheck_any a A c P _ (hA.below hB0))
  have HPL := Lib.hid (fun W (hB : Below w.heap.size w W) => refPlace_any a A c P id arg W (hA.below hB))
  have hpe : Ar.placeErr a id arg = if Ar.checkOf a = 0 then (match Ar.atOf a id arg with | some _ => 0 | none => 7) else Ar.checkOf a := rfl
  have hpr : Ar.placeRes a id arg = if Ar.checkOf a = 0 then (match Ar.atOf a id arg with | some p => p.base | none => ⟨false, 0⟩) else ⟨false, 0⟩ := rfl
  rw [Ar.at_of] at hpe hpr
  rw [hav] at HC HPL ⊢
  unfold fdVal
  have HB0 := Lib.hid hB0
  obtain ⟨e0, e1, e2, e3, -, -, -, -⟩ := cells4 h1.out
  clear hA hav hB0
  by_cases h0 : Ar.checkOf a = 0
  · rw [if_pos h0] at hpe hpr
    rw [h0] at HC
    clear h0
    unfold plVal at HPL
    cases hp : Ar.placeOf a id arg with
    | none =>
      rw [hp] at hpe hpr HPL
      simp only [Option.map_none] at hpe hpr
      simp only [Option.getD_none, Option.isSome_none] at HPL
      unfold Ar.zeroB at HPL
      rw [hpe, hpr]
      clear hpe hpr hp
      go_enter Tryz.func37, Tryz.ntmps37
      go_wp2_with (first
        | (go_at_call 88; refine (HPL.out w2 hBw2).mono ?_; rintro e w3 ⟨rfl, hB3⟩; have hBw3 := hBw2.trans (hB3.mono hBw2.size); have k3 := Lib.hid ((hB3.block _ (lt_of_heap k2.out)).trans k2.out); have hk4 := Lib.hid ((Below.heap_alloc w3 (.cells #[.bool false, .int .i64 0] 24 (0, 0)) _ (lt_of_heap k3.out)).trans k3.out); obtain ⟨r0, r1, s0, s1⟩ := cells2 hk4.out)
        | (go_at_call 24; refine HC.out.mono ?_; rintro e w2 ⟨rfl, hB2⟩; have hBw2 := HB0.out.trans (hB2.mono HB0.out.size); obtain ⟨d0, d1, d2, d3, -, -, -, -⟩ := cells4 ((hB2.block _ (lt_of_heap h1.out)).trans h1.out); have k2 := Lib.hid ((hB2.block _ (lt_of_heap h2.out)).trans h2.out)))
      refine bodyPost_ret (v := .tuple #[.agg #[.bool false, .int .i64 0], .int .i64 7]) (by simp [results, Tryz.results37, go_sem, World.cell?_setCell_same', r0, r1]) rfl ⟨rfl, ?_⟩
      iterate 2 (refine Below.setCell ?_ (by simp) _)
      exact hBw3.alloc hBw3.size _
    | some b =>
      rw [hp] at hpe hpr HPL
      simp only [Option.map_some] at hpe hpr
      simp only [Option.getD_some, Option.isSome_some] at HPL
      rw [hpe, hpr]
      clear hpe hpr hp
      go_enter Tryz.func37, Tryz.ntmps37
      go_wp2_with (first
        | (go_at_call 88; refine (HPL.out w2 hBw2).mono ?_; rintro e w3 ⟨rfl, hB3⟩; have hBw3 := hBw2.trans (hB3.mono hBw2.size); have k3 := Lib.hid ((hB3.block _ (lt_of_heap k2.out)).trans k2.out); have hk4 := Lib.hid ((Below.heap_alloc w3 (.cells #[.bool b.cell, .int .i64 b.n] 24 (0, 0)) _ (lt_of_heap k3.out)).trans k3.out); obtain ⟨r0, r1, s0, s1⟩ := cells2 hk4.out)
        | (go_at_call 24; refine HC.out.mono ?_; rintro e w2 ⟨rfl, hB2⟩; have hBw2 := HB0.out.trans (hB2.mono HB0.out.size); obtain ⟨d0, d1, d2, d3, -, -, -, -⟩ := cells4 ((hB2.block _ (lt_of_heap h1.out)).trans h1.out); have k2 := Lib.hid ((hB2.block _ (lt_of_heap h2.out)).trans h2.out)))
      refine bodyPost_ret (v := .tuple #[.agg #[.bool b.cell, .int .i64 b.n], .int .i64 0]) (by simp [results, Tryz.results37, go_sem, World.cell?_setCell_same', r0, r1]) rfl ⟨rfl, ?_⟩
      iterate 2 (refine Below.setCell ?_ (by simp) _)
      exact hBw3.alloc hBw3.size _
  · rw [if_neg h0] at hpe hpr
    have hne : ((Ar.checkOf a : Int) != 0) = true := by rw [bne_iff_ne]; omega
    rw [hpe, hpr]
    clear hpe hpr h0
    generalize Ar.checkOf a = er at *
    go_enter Tryz.func37, Tryz.ntmps37
    go_wp2_with (go_at_call 24; refine HC.out.mono ?_; rintro e w2 ⟨rfl, hB2⟩; have hBw2 := HB0.out.trans (hB2.mono HB0.out.size); have k2 := Lib.hid ((hB2.block _ (lt_of_heap h2.out)).trans h2.out); obtain ⟨r0, r1, s0, s1⟩ := cells2 k2.out)
    refine bodyPost_ret (v := .tuple #[.agg #[.bool false, .int .i64 0], .int .i64 (er : Int)]) (by simp [results, Tryz.results37, go_sem, World.cell?_setCell_same', r0, r1]) rfl ⟨rfl, ?_⟩
    iterate 2 (refine Below.setCell ?_ (by simp) _)
    exact hBw2
end Go.Proofs.YtbfpgjnagpcbeaaGreatDoor
