/-
  WALKS: a move found in an arena.
-/
import Derived.Test.YtepdlghobopdbaaGreatDoorAt
namespace Go.Proofs.YtepdlghobopdbaaGreatDoor
open Go.RowKit Go.Shelf

namespace Ar
def findErr (a : Are) (m : Mv) : Nat := if checkOf a = 0 then (match atOf a m.id m.arg with | some p => if hasOf p m = true then 0 else 7 | none => 7) else checkOf a
def findPl (a : Are) (m : Mv) : Option Pl := if findErr a m = 0 then atOf a m.id m.arg else none
end Ar
def rtZ : Obj := .cells #[.slice none 0 0, .bool false, .int .i64 0, .bool false] 66 (0, 0)
/-- The blocks of a call of find. -/
structure FB (w : World) (a : Ar.Are) (A : Option Addr) (c : Nat) (m : Ar.Mv) (W : World) : Prop where
  below : Below w.heap.size w W
  arg : W.heap[w.heap.size]? = some (.cells #[.slice A a.ids.length c, .bool a.root.cell, .int .i64 a.root.n, .bool a.jumps] 27 (0, 0))
  mv : W.heap[w.heap.size + 1]? = some (mvO m)
  rt : W.heap[w.heap.size + 1 + 1]? = some rtZ
  pl : W.heap[w.heap.size + 1 + 1 + 1]? = some (plO plZ)
theorem FB.next {w : World} {a : Ar.Are} {A : Option Addr} {c : Nat} {m : Ar.Mv} {W W' : World} (h : FB w a A c m W) (hB : Below W.heap.size W W') : FB w a A c m W' :=
  ⟨h.below.trans (hB.mono h.below.size), (hB.block _ (lt_of_heap h.arg)).trans h.arg, (hB.block _ (lt_of_heap h.mv)).trans h.mv, (hB.block _ (lt_of_heap h.rt)).trans h.rt, (hB.block _ (lt_of_heap h.pl)).trans h.pl⟩
theorem FB.first (w : World) (a : Ar.Are) (A : Option Addr) (c : Nat) (m : Ar.Mv) : FB w a A c m ((((w.alloc (.cells #[.slice A a.ids.length c, .bool a.root.cell, .int .i64 a.root.n, .bool a.jumps] 27 (0, 0))).alloc (mvO m)).alloc rtZ).alloc (plO plZ)) := by
  have h1 := World.alloc_heap_new w (.cells #[.slice A a.ids.length c, .bool a.root.cell, .int .i64 a.root.n, .bool a.jumps] 27 (0, 0))
  have h2 := World.alloc_heap_new (w.alloc (.cells #[.slice A a.ids.length c, .bool a.root.cell, .int .i64 a.root.n, .bool a.jumps] 27 (0, 0))) (mvO m)
  have h3 := World.alloc_heap_new ((w.alloc (.cells #[.slice A a.ids.length c, .bool a.root.cell, .int .i64 a.root.n, .bool a.jumps] 27 (0, 0))).alloc (mvO m)) rtZ
  have h4 := World.alloc_heap_new (((w.alloc (.cells #[.slice A a.ids.length c, .bool a.root.cell, .int .i64 a.root.n, .bool a.jumps] 27 (0, 0))).alloc (mvO m)).alloc rtZ) (plO plZ)
  simp only [World.size_alloc] at h2 h3 h4
  have up : ∀ (V : World) (o : Obj) (k : Nat) (q : Obj), V.heap[k]? = some q → (V.alloc o).heap[k]? = some q := fun V o k q h => (Below.heap_alloc _ _ _ (lt_of_heap h)).trans h
  exact ⟨((((Below.refl _ w).alloc (Nat.le_refl _) _).alloc (by simp) _).alloc (by simp; omega) _).alloc (by simp; omega) _, up _ _ _ _ (up _ _ _ _ (up _ _ _ _ h1)), up _ _ _ _ (up _ _ _ _ h2), up _ _ _ _ h3, h4⟩
theorem FB.mcells {w : World} {a : Ar.Are} {A : Option Addr} {c : Nat} {m : Ar.Mv} {W : World} (h : FB w a A c m W) :
    W.cell? ⟨w.heap.size + 1, 0, none⟩ = some (.int .i64 m.id) ∧ W.cell? ⟨w.heap.size + 1, 1, none⟩ = some (.int .i64 m.arg) ∧ W.cell? ⟨w.heap.size + 1, 2, none⟩ = some (.int .u8 m.kind) ∧ W.cell? ⟨w.heap.size + 1, 3, none⟩ = some (.int .i64 m.n) := mvO_cells h.mv
theorem FB.zcells {w : World} {a : Ar.Are} {A : Option Addr} {c : Nat} {m : Ar.Mv} {W : World} (h : FB w a A c m W) :
    (W.cell? ⟨w.heap.size + 1 + 1, 0, none⟩ = some (.slice none 0 0) ∧ W.cell? ⟨w.heap.size + 1 + 1, 1, none⟩ = some (.bool false) ∧ W.cell? ⟨w.heap.size + 1 + 1, 2, none⟩ = some (.int .i64 0) ∧ W.cell? ⟨w.heap.size + 1 + 1, 3, none⟩ = some (.bool false) ∧
      W.frozen? ⟨w.heap.size + 1 + 1, 0, none⟩ = false ∧ W.frozen? ⟨w.heap.size + 1 + 1, 1, none⟩ = false ∧ W.frozen? ⟨w.heap.size + 1 + 1, 2, none⟩ = false ∧ W.frozen? ⟨w.heap.size + 1 + 1, 3, none⟩ = false) ∧
    (W.cell? ⟨w.heap.size + 1 + 1 + 1, 0, none⟩ = some (.bool false) ∧ W.cell? ⟨w.heap.size + 1 + 1 + 1, 1, none⟩ = some (.int .i64 0) ∧ W.cell? ⟨w.heap.size + 1 + 1 + 1, 2, none⟩ = some (.int .i64 0) ∧ W.cell? ⟨w.heap.size + 1 + 1 + 1, 3, none⟩ = some (.int .i64 0) ∧ W.cell? ⟨w.heap.size + 1 + 1 + 1, 4, none⟩ = some (.bool false)) ∧
    (W.frozen? ⟨w.heap.size + 1 + 1 + 1, 0, none⟩ = false ∧ W.frozen? ⟨w.heap.size + 1 + 1 + 1, 1, none⟩ = false ∧ W.frozen? ⟨w.heap.size + 1 + 1 + 1, 2, none⟩ = false ∧ W.frozen? ⟨w.heap.size + 1 + 1 + 1, 3, none⟩ = false ∧ W.frozen? ⟨w.heap.size + 1 + 1 + 1, 4, none⟩ = false) :=
  ⟨cells4 h.rt, plO_cells h.pl, plO_frozen h.pl⟩

set_option maxRecDepth 100000 in
set_option maxHeartbeats 4000000 in
theorem find_bad (a : Ar.Are) (A : Option Addr) (c : Nat) (P : Nat → Option Addr × Nat) (m : Ar.Mv) (w : World) (hA : ArM w A P a) (h0 : Ar.checkOf a ≠ 0) :
    Calls Tryz.prog 33 #[arV A c a, mvV m] w fun e w' => e = .returned (.tuple #[arZ, plV plZ, .int .i64 (Ar.checkOf a : Int)]) ∧ Below w.heap.size w w' := by
  have hF := FB.first w a A c m
  have HR := Lib.hid (rightOf_any a A c P _ (hA.below hF.below))
  obtain ⟨A1, n1, c1, x1, x2, x3, hx⟩ := rtRes_form A c a
  rw [hx] at HR
  have hav : arV A c a = .agg #[.slice A a.ids.length c, .bool a.root.cell, .int .i64 a.root.n, .bool a.jumps] := rfl
  have hmv : mvV m = .agg #[.int .i64 m.id, .int .i64 m.arg, .int .u8 m.kind, .int .i64 m.n] := rfl
  rw [hav] at HR ⊢
  rw [hmv]
  have hne : ((Ar.checkOf a : Int) != 0) = true := by rw [bne_iff_ne]; omega
  have HF := Lib.hid hF
  unfold mvO rtZ plO plZ at HF HR
  clear hav hmv hx h0 hA hF
  generalize Ar.checkOf a = er at *
  go_enter Tryz.func33, Tryz.ntmps33
  go_wp2_with (go_at_call 44; refine HR.out.mono ?_; rintro e w2 ⟨rfl, hB2⟩; have f2 := HF.out.next hB2; have f3 := Lib.hid (f2.next ((Below.refl _ w2).alloc (Nat.le_refl _) (.cells #[.slice A1 n1 c1, .bool x1, .int .i64 x2, .bool x3] 66 (0, 0)))); obtain ⟨⟨r0, r1, r2, r3, s0, s1, s2, s3⟩, ⟨z0, z1, z2, z3, z4⟩, ⟨g0, g1, g2, g3, g4⟩⟩ := f3.out.zcells; clear f2)
  refine bodyPost_ret (v := .tuple #[.agg #[.slice none 0 0, .bool false, .int .i64 0, .bool false], .agg #[.bool false, .int .i64 0, .int .i64 0, .int .i64 0, .bool false], .int .i64 (er : Int)]) (by simp [results, Tryz.results33, go_sem, World.cell?_setCell_same', z0, z1, z2, z3, z4, r0, r1, r2, r3]) rfl ⟨rfl, ?_⟩
  iterate 9 (refine Below.setCell ?_ (by simp; omega) _)
  exact f3.out.below

set_option maxRecDepth 100000 in
set_option maxHeartbeats 4000000 in
theorem find_good (a : Ar.Are) (A : Option Addr) (c : Nat) (P : Nat → Option Addr × Nat) (m : Ar.Mv) (w : World) (hA : ArM w A P a) (h0 : Ar.checkOf a = 0) :
    Calls Tryz.prog 33 #[arV A c a, mvV m] w fun e w' => e = .returned (.tuple #[if Ar.findErr a m = 0 then arV A c a else arZ, plRes (Ar.findPl a m), .int .i64 (Ar.findErr a m : Int)]) ∧ Below w.heap.size w w' := by
  have hF := FB.first w a A c m
  have HR := Lib.hid (rightOf_any a A c P _ (hA.below hF.below))
  have hr := Ar.right_of_check h0
  obtain ⟨hl1, hl2⟩ := arM_of_right hr
  have hx : rtRes A c a = .agg #[.slice A a.ids.length c, .bool a.root.cell, .int .i64 a.root.n, .bool a.jumps] := by unfold rtRes; rw [if_pos h0]; rfl
  rw [hx, h0] at HR
  have HAT := Lib.hid (fun W (hB : Below w.heap.size w W) => at_any a A c P m.id m.arg W (hA.below hB) hl1 hl2)
  have hfe : Ar.findErr a m = (match Ar.atOf a m.id m.arg with | some p => if Ar.hasOf p m = true then 0 else 7 | none => 7) := by unfold Ar.findErr; rw [if_pos h0]
  have hfp : Ar.findPl a m = if Ar.findErr a m = 0 then Ar.atOf a m.id m.arg else none := rfl
  have hav : arV A c a = .agg #[.slice A a.ids.length c, .bool a.root.cell, .int .i64 a.root.n, .bool a.jumps] := rfl
  have hmv : mvV m = .agg #[.int .i64 m.id, .int .i64 m.arg, .int .u8 m.kind, .int .i64 m.n] := rfl
  have hmem : ∀ p, Ar.atOf a m.id m.arg = some p → 1 ≤ p.base.n ∧ p.base.n ≤ 64 := fun p hp => Ar.place_right hr p (List.mem_of_find?_eq_some hp)
  rw [hav] at HR HAT
  have HF := Lib.hid hF
  unfold mvO rtZ plO plZ at HF HR
  clear hx h0 hA hF hr hl1 hl2
  cases hat : Ar.atOf a m.id m.arg with
  | none =>
    rw [hat] at hfe hfp HAT
    simp only at hfe
    rw [hfe] at hfp
    rw [hfe, hfp, hav, hmv]
    clear hfe hfp hav hmv hmem hat
    unfold plRes plV plZ at HAT
    go_enter Tryz.func33, Tryz.ntmps33
    go_wp2_with (first
      | (go_at_call 45; refine (HAT.out _ f3.out.below).mono ?_; rintro e w4 ⟨rfl, hB4⟩; have f4 := f3.out.next hB4; have f5 := Lib.hid (f4.next ((Below.refl _ w4).alloc (Nat.le_refl _) (.cells #[.bool false, .int .i64 0, .int .i64 0, .int .i64 0, .bool false] 68 (0, 0)))); obtain ⟨⟨r0, r1, r2, r3, s0, s1, s2, s3⟩, ⟨z0, z1, z2, z3, z4⟩, ⟨g0, g1, g2, g3, g4⟩⟩ := f5.out.zcells; clear f4)
      | (go_at_call 44; refine HR.out.mono ?_; rintro e w2 ⟨rfl, hB2⟩; have f2 := HF.out.next hB2; have f3 := Lib.hid (f2.next ((Below.refl _ w2).alloc (Nat.le_refl _) (.cells #[.slice A a.ids.length c, .bool a.root.cell, .int .i64 a.root.n, .bool a.jumps] 66 (0, 0)))); obtain ⟨m0, m1, m2, m3⟩ := f3.out.mcells; clear f2))
    refine bodyPost_ret (v := .tuple #[.agg #[.slice none 0 0, .bool false, .int .i64 0, .bool false], .agg #[.bool false, .int .i64 0, .int .i64 0, .int .i64 0, .bool false], .int .i64 7]) (by simp [results, Tryz.results33, go_sem, World.cell?_setCell_same', z0, z1, z2, z3, z4, r0, r1, r2, r3]) rfl ⟨rfl, ?_⟩
    iterate 9 (refine Below.setCell ?_ (by simp; omega) _)
    exact f5.out.below
  | some p =>
    rw [hat] at hfe hfp HAT
    obtain ⟨hp1, hp64⟩ := hmem p hat
    have HH := Lib.hid (fun W => has_any p m W hp1 hp64)
    simp only at hfe
    have hp : plRes (some p) = .agg #[.bool p.base.cell, .int .i64 p.base.n, .int .i64 p.id, .int .i64 p.arg, .bool p.jumps] := rfl
    have hpv : plV p = .agg #[.bool p.base.cell, .int .i64 p.base.n, .int .i64 p.id, .int .i64 p.arg, .bool p.jumps] := rfl
    rw [hp] at HAT
    rw [hpv, hmv] at HH
    cases hh : Ar.hasOf p m
    · rw [hh] at hfe HH
      rw [hfe] at hfp
      rw [hfe, hfp, hav, hmv]
      clear hfe hfp hav hmv hmem hat hh hp hpv
      go_enter Tryz.func33, Tryz.ntmps33
      go_wp2_with (first
        | (go_at_call 74; refine (HH.out _).mono ?_; rintro e w6 ⟨rfl, hB6⟩; have f6 := Lib.hid (f5.out.next hB6); obtain ⟨⟨r0, r1, r2, r3, s0, s1, s2, s3⟩, ⟨z0, z1, z2, z3, z4⟩, ⟨g0, g1, g2, g3, g4⟩⟩ := f6.out.zcells)
        | (go_at_call 45; refine (HAT.out _ f3.out.below).mono ?_; rintro e w4 ⟨rfl, hB4⟩; have f4 := f3.out.next hB4; have f5 := Lib.hid (f4.next ((Below.refl _ w4).alloc (Nat.le_refl _) (.cells #[.bool p.base.cell, .int .i64 p.base.n, .int .i64 p.id, .int .i64 p.arg, .bool p.jumps] 68 (0, 0)))); obtain ⟨m0, m1, m2, m3⟩ := f5.out.mcells; clear f4)
        | (go_at_call 44; refine HR.out.mono ?_; rintro e w2 ⟨rfl, hB2⟩; have f2 := HF.out.next hB2; have f3 := Lib.hid (f2.next ((Below.refl _ w2).alloc (Nat.le_refl _) (.cells #[.slice A a.ids.length c, .bool a.root.cell, .int .i64 a.root.n, .bool a.jumps] 66 (0, 0)))); obtain ⟨m0, m1, m2, m3⟩ := f3.out.mcells; clear f2))
      refine bodyPost_ret (v := .tuple #[.agg #[.slice none 0 0, .bool false, .int .i64 0, .bool false], .agg #[.bool false, .int .i64 0, .int .i64 0, .int .i64 0, .bool false], .int .i64 7]) (by simp [results, Tryz.results33, go_sem, World.cell?_setCell_same', z0, z1, z2, z3, z4, r0, r1, r2, r3]) rfl ⟨rfl, ?_⟩
      iterate 9 (refine Below.setCell ?_ (by simp; omega) _)
      exact f6.out.below
    · rw [hh] at hfe HH
      rw [hfe] at hfp
      rw [hfe, hfp, hav, hmv]
      clear hfe hfp hav hmv hmem hat hh hp hpv
      go_enter Tryz.func33, Tryz.ntmps33
      go_wp2_with (first
        | (go_at_call 74; refine (HH.out _).mono ?_; rintro e w6 ⟨rfl, hB6⟩; have f6 := Lib.hid (f5.out.next hB6); have k7 := Lib.hid ((hB6.block _ (lt_of_heap j7.out)).trans j7.out); have k9 := Lib.hid ((hB6.block _ (lt_of_heap j9.out)).trans j9.out); obtain ⟨⟨r0, r1, r2, r3, s0, s1, s2, s3⟩, ⟨z0, z1, z2, z3, z4⟩, ⟨g0, g1, g2, g3, g4⟩⟩ := f6.out.zcells; obtain ⟨q0, q1, q2, q3, -⟩ := cells4 k7.out; obtain ⟨o0, o1, o2, o3, o4⟩ := plO_cells (p := p) k9.out)
        | (go_at_call 45; refine (HAT.out _ f3.out.below).mono ?_; rintro e w4 ⟨rfl, hB4⟩; have f4 := f3.out.next hB4; have f5 := Lib.hid (f4.next ((Below.refl _ w4).alloc (Nat.le_refl _) (.cells #[.bool p.base.cell, .int .i64 p.base.n, .int .i64 p.id, .int .i64 p.arg, .bool p.jumps] 68 (0, 0)))); have j7 := Lib.hid ((Below.heap_alloc w4 (.cells #[.bool p.base.cell, .int .i64 p.base.n, .int .i64 p.id, .int .i64 p.arg, .bool p.jumps] 68 (0, 0)) _ (Nat.lt_of_lt_of_le (lt_of_heap i7.out) hB4.size)).trans ((hB4.block _ (lt_of_heap i7.out)).trans i7.out)); have j9 := Lib.hid (World.alloc_heap_new w4 (.cells #[.bool p.base.cell, .int .i64 p.base.n, .int .i64 p.id, .int .i64 p.arg, .bool p.jumps] 68 (0, 0))); obtain ⟨m0, m1, m2, m3⟩ := f5.out.mcells; clear f4)
        | (go_at_call 44; refine HR.out.mono ?_; rintro e w2 ⟨rfl, hB2⟩; have f2 := HF.out.next hB2; have f3 := Lib.hid (f2.next ((Below.refl _ w2).alloc (Nat.le_refl _) (.cells #[.slice A a.ids.length c, .bool a.root.cell, .int .i64 a.root.n, .bool a.jumps] 66 (0, 0)))); have i7 := Lib.hid (World.alloc_heap_new w2 (.cells #[.slice A a.ids.length c, .bool a.root.cell, .int .i64 a.root.n, .bool a.jumps] 66 (0, 0))); obtain ⟨m0, m1, m2, m3⟩ := f3.out.mcells; clear f2))
      have hmx : Tryz.prog.follows .mixedOrders = true := by kernel_rfl
      have hsz2 : w.heap.size + 4 ≤ w2.heap.size := by have := hB2.size; simp at this; omega
      have hsz4 : w2.heap.size + 1 ≤ w4.heap.size := by have := hB4.size; simp at this; omega
      have n1 : w4.heap.size ≠ w.heap.size + 1 + 1 := by omega
      have n2 : w4.heap.size ≠ w.heap.size + 1 + 1 + 1 := by omega
      have n3 : w2.heap.size ≠ w.heap.size + 1 + 1 := by omega
      have n4 : w2.heap.size ≠ w.heap.size + 1 + 1 + 1 := by omega
      clear hB2 hB4 hB6 HR HAT HH HF
      go_region
      all_goals go_wp2
      all_goals
        refine bodyPost_ret (v := .tuple #[.agg #[.slice A a.ids.length c, .bool a.root.cell, .int .i64 a.root.n, .bool a.jumps], .agg #[.bool p.base.cell, .int .i64 p.base.n, .int .i64 p.id, .int .i64 p.arg, .bool p.jumps], .int .i64 0]) (by simp [results, Tryz.results33, go_sem, World.cell?_setCell_same', z0, z1, z2, z3, z4, r0, r1, r2, r3]) rfl ⟨rfl, ?_⟩
        refine Below.drew ?_
        iterate 9 (refine Below.setCell ?_ (by simp; omega) _)
        exact f6.out.below

/-- find, as the plain half says it. -/
def findRt (a : Ar.Are) (A : Option Addr) (c : Nat) (m : Ar.Mv) : Value := if Ar.findErr a m = 0 then arV A c a else arZ
theorem find_any (a : Ar.Are) (A : Option Addr) (c : Nat) (P : Nat → Option Addr × Nat) (m : Ar.Mv) (w : World) (hA : ArM w A P a) :
    Calls Tryz.prog 33 #[arV A c a, mvV m] w fun e w' => e = .returned (.tuple #[findRt a A c m, plRes (Ar.findPl a m), .int .i64 (Ar.findErr a m : Int)]) ∧ Below w.heap.size w w' := by
  by_cases h0 : Ar.checkOf a = 0
  · exact find_good a A c P m w hA h0
  · have h1 : Ar.findErr a m = Ar.checkOf a := by unfold Ar.findErr; rw [if_neg h0]
    have h2 : Ar.findPl a m = none := by unfold Ar.findPl; rw [h1, if_neg h0]
    have h3 : findRt a A c m = arZ := by unfold findRt; rw [h1, if_neg h0]
    rw [h1, h2, h3]
    exact find_bad a A c P m w hA h0
end Go.Proofs.YtepdlghobopdbaaGreatDoor
