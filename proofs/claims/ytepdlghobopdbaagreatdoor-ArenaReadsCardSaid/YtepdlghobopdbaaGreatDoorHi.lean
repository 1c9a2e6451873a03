/-
  WALKS: the reference: a base type, a type read loosely.
-/
import Derived.Test.YtepdlghobopdbaaGreatDoorHg
namespace Go.Proofs.YtepdlghobopdbaaGreatDoor
open Go.RowKit Go.MapKept Go.Shelf

theorem pre_size {s : ByteArray} {p : List UInt8} (h : Lib.hasPrefix s.data.toList p = true) : p.length ≤ s.size := by
  obtain ⟨r, hr⟩ := List.isPrefixOf_iff_prefix.1 h
  have := congrArg List.length hr
  rw [List.length_append] at this
  show p.length ≤ s.data.toList.length
  omega
theorem digits_num (s : ByteArray) (hs : s.size ≤ 1000000) (k : Nat) (w : World) :
    Calls Tryz.prog 71 #[.string (s.extract k s.size)] w fun e w' => ∃ d : Nat, e = .returned (.tuple #[.int .i64 (Ar.numAt s k), .int .i64 (d : Int)]) ∧ w' = w :=
  (digits_any (s.extract k s.size) (by rw [ByteArray.size_extract]; omega) w).mono fun _ _ ⟨h1, h2⟩ => ⟨_, h1, h2⟩

set_option maxRecDepth 100000 in
set_option maxHeartbeats 4000000 in
theorem refBase_any (s : ByteArray) (hs : s.size ≤ 1000000) (w : World) :
    Calls Tryz.prog 29 #[.string s] w fun e w' => e = .returned (.agg #[.bool (Ar.refBs s).cell, .int .i64 (Ar.refBs s).n]) ∧ Below w.heap.size w w' := by
  have hB0 := Lib.hid (below_two (w := w) (.cells #[.bool false, .int .i64 0] 25 (0, 0)) (.cells #[.bool false, .int .i64 0] 25 (0, 0)))
  obtain ⟨r0, r1, f0, f1⟩ := cells2 (two_new1 w (.cells #[.bool false, .int .i64 0] 25 (0, 0)) (.cells #[.bool false, .int .i64 0] 25 (0, 0)))
  obtain ⟨q0, q1, g0, g1⟩ := cells2 (two_new2 w (.cells #[.bool false, .int .i64 0] 25 (0, 0)) (.cells #[.bool false, .int .i64 0] 25 (0, 0)))
  have HBC := Lib.hid (fun W => show Calls Tryz.prog 70 #[.string s, .string ⟨#[99, 101, 108, 108, 32]⟩] W fun e w' => e = .returned (.bool (Lib.hasPrefix s.data.toList Ar.cellL)) ∧ w' = W from begins_any s ⟨#[99, 101, 108, 108, 32]⟩ W)
  have HBI := Lib.hid (fun W => show Calls Tryz.prog 70 #[.string s, .string ⟨#[105, 110, 116, 32]⟩] W fun e w' => e = .returned (.bool (Lib.hasPrefix s.data.toList Ar.intL)) ∧ w' = W from begins_any s ⟨#[105, 110, 116, 32]⟩ W)
  have HD5 := Lib.hid (fun W => digits_num s hs 5 W)
  have HD4 := Lib.hid (fun W => digits_num s hs 4 W)
  by_cases hc : Lib.hasPrefix s.data.toList Ar.cellL = true
  · have hk : Ar.refBs s = ⟨true, Ar.numAt s 5⟩ := by unfold Ar.refBs; rw [if_pos hc]
    have h5 : (5 : Int) ≤ (s.size : Int) := by have := pre_size hc; have e : Ar.cellL.length = 5 := rfl; omega
    rw [hk]; rw [hc] at HBC
    clear hk hc hs
    generalize Ar.numAt s 5 = n at *
    go_enter Tryz.func29, Tryz.ntmps29
    go_wp2_with (first
      | (go_at_call 71; refine (HD5.out _).mono ?_; rintro e w2 ⟨d, rfl, hw2⟩; subst hw2)
      | (go_at_call 70; refine (HBC.out _).mono ?_; rintro e w1 ⟨rfl, hw1⟩; subst hw1))
    obtain ⟨y0, y1, -, -⟩ := cells2 (two_new1 w (.cells #[.bool true, .int .i64 n] 25 (0, 0)) (.cells #[.bool true, .int .i64 n] 25 (0, 0)))
    refine bodyPost_ret (v := .agg #[.bool true, .int .i64 n]) (by simp [results, Tryz.results29, go_sem, y0, y1]) rfl ⟨rfl, below_two _ _⟩
  · rw [Bool.not_eq_true] at hc
    rw [hc] at HBC
    by_cases hi : Lib.hasPrefix s.data.toList Ar.intL = true
    · have hk : Ar.refBs s = ⟨false, Ar.numAt s 4⟩ := by unfold Ar.refBs; rw [if_neg (by rw [hc]; decide), if_pos hi]
      have h5 : (4 : Int) ≤ (s.size : Int) := by have := pre_size hi; have e : Ar.intL.length = 4 := rfl; omega
      rw [hk]; rw [hi] at HBI
      clear hk hc hi hs
      generalize Ar.numAt s 4 = n at *
      go_enter Tryz.func29, Tryz.ntmps29
      go_wp2_with (first
        | (go_at_call 71; refine (HD4.out _).mono ?_; rintro e w2 ⟨d, rfl, hw2⟩; subst hw2)
        | (go_at_call 70; have _t := hmark; refine (HBI.out _).mono ?_; rintro e w1 ⟨rfl, hw1⟩; subst hw1)
        | (go_at_call 70; refine (HBC.out _).mono ?_; rintro e w1 ⟨rfl, hw1⟩; subst hw1; have hmark := True.intro))
      obtain ⟨y0, y1, -, -⟩ := cells2 (two_new1 w (.cells #[.bool false, .int .i64 n] 25 (0, 0)) (.cells #[.bool false, .int .i64 n] 25 (0, 0)))
      refine bodyPost_ret (v := .agg #[.bool false, .int .i64 n]) (by simp [results, Tryz.results29, go_sem, y0, y1]) rfl ⟨rfl, below_two _ _⟩
    · have hk : Ar.refBs s = ⟨false, 0⟩ := by unfold Ar.refBs; rw [if_neg (by rw [hc]; decide), if_neg hi]
      rw [hk]; rw [Bool.not_eq_true] at hi; rw [hi] at HBI
      clear hk hc hi hs
      go_enter Tryz.func29, Tryz.ntmps29
      go_wp2_with (first
        | (go_at_call 70; have _t := hmark; refine (HBI.out _).mono ?_; rintro e w1 ⟨rfl, hw1⟩; subst hw1)
        | (go_at_call 70; refine (HBC.out _).mono ?_; rintro e w1 ⟨rfl, hw1⟩; subst hw1; have hmark := True.intro))
      obtain ⟨y0, y1, -, -⟩ := cells2 (two_new1 w (.cells #[.bool false, .int .i64 0] 25 (0, 0)) (.cells #[.bool false, .int .i64 0] 25 (0, 0)))
      refine bodyPost_ret (v := .agg #[.bool false, .int .i64 0]) (by simp [results, Tryz.results29, go_sem, y0, y1]) rfl ⟨rfl, below_two _ _⟩

/-- A block of texts. -/
def StrB (W : World) (g : Nat) (l : List ByteArray) : Prop := ∃ cs, W.heap[g]? = some (.cells cs 9 (0, 0)) ∧ ∀ (i : Nat) (x : ByteArray), l[i]? = some x → cs[i]? = some (Value.string x)
theorem StrB.cell {W : World} {g i : Nat} {l : List ByteArray} {x : ByteArray} (h : StrB W g l) (hx : l[i]? = some x) : W.cell? ⟨g, i, none⟩ = some (.string x) := by
  obtain ⟨cs, hb, hc⟩ := h
  unfold World.cell?
  rw [hb]
  exact hc i x hx
theorem StrB.next {W W' : World} {g : Nat} {l : List ByteArray} (h : StrB W g l) (hB : Below W.heap.size W W') : StrB W' g l := by
  obtain ⟨cs, hb, hc⟩ := h
  exact ⟨cs, (hB.block _ (lt_of_heap hb)).trans hb, hc⟩
theorem StrB.set {W : World} {g b j : Nat} {l : List ByteArray} {u : Value} (h : StrB W g l) (hne : g ≠ b) : StrB (W.setCell ⟨b, j, none⟩ u) g l := by
  obtain ⟨cs, hb, hc⟩ := h
  exact ⟨cs, (Below.heap_setCell _ _ _ _ hne).trans hb, hc⟩
theorem StrB.grown {W W' : World} {g base size n : Nat} {e : TypeId} {v : Value} {xs : List Value} {l : List ByteArray} (h : StrB W g l) (hown : W.ownsRow base e size v n xs) (hg : W.grownBy W' v.ownBlock) (he : e ≠ 9) : StrB W' g l := by
  obtain ⟨cs, hb, hc⟩ := h
  refine ⟨cs, (hg.block g (lt_of_heap hb) (fun e1 => ?_)).trans hb, hc⟩
  obtain ⟨cs', h'⟩ := own_block_cells hown e1.symm
  rw [h'] at hb
  simp only [Option.some.injEq, Obj.cells.injEq] at hb
  exact he hb.2.1
theorem strs_of_own {W : World} {base n : Nat} {v : Value} {L : List ByteArray} (h : W.ownsRow base 9 1 v n (L.map Value.string)) (hn : 0 < n) : ∃ g c, v = .slice (some ⟨g, 0, none⟩) n c ∧ base ≤ g ∧ StrB W g L := by
  rcases h.2 with ⟨_, h0⟩ | ⟨g, cap, cur, rfl, hb, hg, hc, _, _, hx⟩
  · omega
  · refine ⟨g, cap, rfl, hb, cur, hg, fun i x hi => ?_⟩
    have h1 : (L.map Value.string)[i]? = some (.string x) := by rw [List.getElem?_map, hi]; rfl
    rw [← hx] at h1
    have h2 : i < n * 1 := by
      have := (List.getElem?_eq_some_iff.1 h1).1
      rw [List.length_take] at this; omega
    rw [List.getElem?_take_of_lt h2] at h1
    simpa using h1
theorem refSplit_strs (s sep : ByteArray) (hs : s.size ≤ 1000000) (h1 : 1 ≤ sep.size) (h2 : sep.size ≤ 100) (w : World) :
    Calls Tryz.prog 28 #[.string s, .string sep] w fun e w' => ∃ g c', e = .returned (.slice (some ⟨g, 0, none⟩) (Ar.splitBs s sep).length c') ∧ w.heap.size ≤ g ∧ StrB w' g (Ar.splitBs s sep) ∧ Below w.heap.size w w' :=
  (refSplit_any s sep hs h1 h2 w).mono fun e w' ⟨A', c', he, ho, hB⟩ => by
    obtain ⟨x, l, hx⟩ := Ar.splitBs_ne s sep
    obtain ⟨g, c, hv, hg, hS⟩ := strs_of_own ho (by rw [hx, List.length_cons]; omega)
    exact ⟨g, c, by rw [he, hv], hg, hS, hB⟩
end Go.Proofs.YtepdlghobopdbaaGreatDoor
