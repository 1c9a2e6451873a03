/-
  WALKS: Place.
-/
import Derived.Test.YtepdlghobopdbaaGreatDoorBw
namespace Go.Proofs.YtepdlghobopdbaaGreatDoor
open Go.RowKit Go.MapKept Go.Shelf

namespace Ar
def placeErr (a : Are) (id arg : Int) : Nat := if checkOf a = 0 then (match atOf a id arg with | some _ => 0 | none => 7) else checkOf a
def placeRes (a : Are) (id arg : Int) : Bs := if checkOf a = 0 then (match atOf a id arg with | some p => p.base | none => ⟨false, 0⟩) else ⟨false, 0⟩
end Ar
theorem cells2 {W : World} {b : Nat} {x y : Value} {t : TypeId} (h : W.heap[b]? = some (.cells #[x, y] t (0, 0))) : W.cell? ⟨b, 0, none⟩ = some x ∧ W.cell? ⟨b, 1, none⟩ = some y ∧ W.frozen? ⟨b, 0, none⟩ = false ∧ W.frozen? ⟨b, 1, none⟩ = false :=
  ⟨by simp [World.cell?, h], by simp [World.cell?, h], by simp [World.frozen?, h], by simp [World.frozen?, h]⟩
set_option maxRecDepth 100000 in
set_option maxHeartbeats 4000000 in
theorem Place_any (a : Ar.Are) (A : Option Addr) (c : Nat) (P : Nat → Option Addr × Nat) (id arg : Int) (w : World) (hA : ArM w A P a) :
    Calls Tryz.prog 16 #[arV A c a, .int .i64 id, .int .i64 arg] w fun e w' => e = .returned (.tuple #[.agg #[.bool (Ar.placeRes a id arg).cell, .int .i64 (Ar.placeRes a id arg).n], .int .i64 (Ar.placeErr a id arg : Int)]) ∧ Below w.heap.size w w' := by
  have hB0 := below_two (w := w) (.cells #[.slice A a.ids.length c, .bool a.root.cell, .int .i64 a.root.n, .bool a.jumps] 27 (0, 0)) (.cells #[.bool false, .int .i64 0] 25 (0, 0))
  have h20 := Lib.hid (two_new2 w (.cells #[.slice A a.ids.length c, .bool a.root.cell, .int .i64 a.root.n, .bool a.jumps] 27 (0, 0)) (.cells #[.bool false, .int .i64 0] 25 (0, 0)))
  have HR := Lib.hid (rightOf_any a A c P _ (hA.below hB0))
  have hav : arV A c a = .agg #[.slice A a.ids.length c, .bool a.root.cell, .int .i64 a.root.n, .bool a.jumps] := rfl
  unfold Ar.placeRes Ar.placeErr
  by_cases h0 : Ar.checkOf a = 0
  · have hr := Ar.right_of_check h0
    obtain ⟨hl1, hl2⟩ := arM_of_right hr
    have hx : rtRes A c a = .agg #[.slice A a.ids.length c, .bool a.root.cell, .int .i64 a.root.n, .bool a.jumps] := by unfold rtRes; rw [if_pos h0]; rfl
    rw [hx, h0] at HR
    have HAT := Lib.hid (fun W (hB : Below w.heap.size w W) => at_any a A c P id arg W (hA.below hB) hl1 hl2)
    rw [if_pos h0, if_pos h0]
    obtain ⟨p, hp⟩ := plRes_form (Ar.atOf a id arg)
    rw [hav] at HR HAT ⊢
    cases hat : Ar.atOf a id arg with
    | none =>
      rw [hat] at HAT
      unfold plRes plV plZ at HAT
      clear hp hat h0 hr hav hx hA
      go_enter Tryz.func16, Tryz.ntmps16
      go_wp2_with (first
        | (go_at_call 45; refine (HAT.out _ hBw3).mono ?_; rintro e w4 ⟨rfl, hB4⟩; have hBw4 := hBw3.trans (hB4.mono hBw3.size); have hBw5 := hBw4.alloc hBw4.size (.cells #[.bool false, .int .i64 0, .int .i64 0, .int .i64 0, .bool false] 68 (0, 0)); have j2 := Lib.hid ((Below.heap_alloc w4 (.cells #[.bool false, .int .i64 0, .int .i64 0, .int .i64 0, .bool false] 68 (0, 0)) _ (Nat.lt_of_lt_of_le (lt_of_heap i2.out) hB4.size)).trans ((hB4.block _ (lt_of_heap i2.out)).trans i2.out)); obtain ⟨r0, r1, s0, s1⟩ := cells2 j2.out)
        | (go_at_call 44; refine HR.out.mono ?_; rintro e w2 ⟨rfl, hB2⟩; have hBw2 := hB0.trans (hB2.mono hB0.size); have hBw3 := hBw2.alloc hBw2.size (.cells #[.slice A a.ids.length c, .bool a.root.cell, .int .i64 a.root.n, .bool a.jumps] 66 (0, 0)); have i2 := Lib.hid ((Below.heap_alloc w2 (.cells #[.slice A a.ids.length c, .bool a.root.cell, .int .i64 a.root.n, .bool a.jumps] 66 (0, 0)) _ (Nat.lt_of_lt_of_le (lt_of_heap h20.out) hB2.size)).trans ((hB2.block _ (lt_of_heap h20.out)).trans h20.out))))
      refine bodyPost_ret (v := .tuple #[.agg #[.bool false, .int .i64 0], .int .i64 7]) (by simp [results, Tryz.results16, go_sem, World.cell?_setCell_same', r0, r1]) rfl ⟨rfl, ?_⟩
      iterate 2 (refine Below.setCell ?_ (by simp) _)
      exact hBw5
    | some p =>
      rw [hat] at HAT
      have hpp : plRes (some p) = .agg #[.bool p.base.cell, .int .i64 p.base.n, .int .i64 p.id, .int .i64 p.arg, .bool p.jumps] := rfl
      rw [hpp] at HAT
      clear hp hpp hat h0 hr hav hx hA
      go_enter Tryz.func16, Tryz.ntmps16
      go_wp2_with (first
        | (go_at_call 45; refine (HAT.out _ hBw3).mono ?_; rintro e w4 ⟨rfl, hB4⟩; have hBw4 := hBw3.trans (hB4.mono hBw3.size); have hBw5 := hBw4.alloc hBw4.size (.cells #[.bool p.base.cell, .int .i64 p.base.n, .int .i64 p.id, .int .i64 p.arg, .bool p.jumps] 68 (0, 0)); have j2 := Lib.hid ((Below.heap_alloc w4 (.cells #[.bool p.base.cell, .int .i64 p.base.n, .int .i64 p.id, .int .i64 p.arg, .bool p.jumps] 68 (0, 0)) _ (Nat.lt_of_lt_of_le (lt_of_heap i2.out) hB4.size)).trans ((hB4.block _ (lt_of_heap i2.out)).trans i2.out)); obtain ⟨r0, r1, s0, s1⟩ := cells2 j2.out)
        | (go_at_call 44; refine HR.out.mono ?_; rintro e w2 ⟨rfl, hB2⟩; have hBw2 := hB0.trans (hB2.mono hB0.size); have hBw3 := hBw2.alloc hBw2.size (.cells #[.slice A a.ids.length c, .bool a.root.cell, .int .i64 a.root.n, .bool a.jumps] 66 (0, 0)); have i2 := Lib.hid ((Below.heap_alloc w2 (.cells #[.slice A a.ids.length c, .bool a.root.cell, .int .i64 a.root.n, .bool a.jumps] 66 (0, 0)) _ (Nat.lt_of_lt_of_le (lt_of_heap h20.out) hB2.size)).trans ((hB2.block _ (lt_of_heap h20.out)).trans h20.out))))
      refine bodyPost_ret (v := .tuple #[.agg #[.bool p.base.cell, .int .i64 p.base.n], .int .i64 0]) (by simp [results, Tryz.results16, go_sem, World.cell?_setCell_same', r0, r1]) rfl ⟨rfl, ?_⟩
      iterate 2 (refine Below.setCell ?_ (by simp) _)
      exact hBw5
  · obtain ⟨A1, n1, c1, x1, x2, x3, hx⟩ := rtRes_form A c a
    rw [hx, hav] at HR
    rw [hav, if_neg h0, if_neg h0]
    have hne : ((Ar.checkOf a : Int) != 0) = true := by rw [bne_iff_ne]; omega
    clear hx h0 hA hav
    generalize Ar.checkOf a = er at *
    go_enter Tryz.func16, Tryz.ntmps16
    go_wp2_with (go_at_call 44; refine HR.out.mono ?_; rintro e w2 ⟨rfl, hB2⟩; have hBw2 := hB0.trans (hB2.mono hB0.size); have hBw3 := hBw2.alloc hBw2.size (.cells #[.slice A1 n1 c1, .bool x1, .int .i64 x2, .bool x3] 66 (0, 0)); have i2 := Lib.hid ((Below.heap_alloc w2 (.cells #[.slice A1 n1 c1, .bool x1, .int .i64 x2, .bool x3] 66 (0, 0)) _ (Nat.lt_of_lt_of_le (lt_of_heap h20.out) hB2.size)).trans ((hB2.block _ (lt_of_heap h20.out)).trans h20.out)); obtain ⟨r0, r1, s0, s1⟩ := cells2 i2.out)
    refine bodyPost_ret (v := .tuple #[.agg #[.bool false, .int .i64 0], .int .i64 (er : Int)]) (by simp [results, Tryz.results16, go_sem, World.cell?_setCell_same', r0, r1]) rfl ⟨rfl, ?_⟩
    iterate 2 (refine Below.setCell ?_ (by simp) _)
    exact hBw3
end Go.Proofs.YtepdlghobopdbaaGreatDoor
