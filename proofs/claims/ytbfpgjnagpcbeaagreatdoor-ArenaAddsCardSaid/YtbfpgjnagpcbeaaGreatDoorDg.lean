/-
  WALKS: contracts with their arenas written out; ArenaPlaces.
-/
import Derived.Test.YtbfpgjnagpcbeaaGreatDoorDf
import Derived.Test.YtbfpgjnagpcbeaaGreatDoorDk
import Derived.Test.YtbfpgjnagpcbeaaGreatDoorBs
namespace Go.Proofs.YtbfpgjnagpcbeaaGreatDoor
open Go.RowKit Go.MapKept Go.Shelf

theorem thinL {a : Ar.Are} {A : Option Addr} {c : Nat} {P : Nat → Option Addr × Nat} {W : World} (h : AreM W A c P a) : Calls Tryz.prog 16 #[.agg #[.slice A a.ids.length c, .bool a.root.cell, .int .i64 a.root.n, .bool a.jumps]] W fun e w' => e = .returned (.bool (Ar.thinOf a)) ∧ Below W.heap.size W w' :=
  thin_any a A c P W h.len h.par h.tys
theorem AreM.below {W W' : World} {A : Option Addr} {c : Nat} {P : Nat → Option Addr × Nat} {a : Ar.Are} (h : AreM W A c P a) (hB : Below W.heap.size W W') : AreM W' A c P a := ⟨(h.tys.below hB).mono hB.size, h.len, h.par, h.nil, h.nils⟩
theorem AreM.m {W : World} {A : Option Addr} {c : Nat} {P : Nat → Option Addr × Nat} {a : Ar.Are} (h : AreM W A c P a) (ht : Ar.thinOf a = true) : ArM W A P a := by
  obtain ⟨h1, h2⟩ := Ar.thin_bounds ht
  exact ⟨by omega, fun t ht => by have := h2 t ht; omega, h.tys⟩
theorem copyL {a : Ar.Are} {A : Option Addr} {c : Nat} {P : Nat → Option Addr × Nat} {W : World} (h : AreM W A c P a) (ht : Ar.thinOf a = true) : Calls Tryz.prog 18 #[.agg #[.slice A a.ids.length c, .bool a.root.cell, .int .i64 a.root.n, .bool a.jumps]] W fun e w' => ∃ A' c' P', e = .returned (.agg #[.slice A' a.ids.length c', .bool a.root.cell, .int .i64 a.root.n, .bool a.jumps]) ∧ ArM w' A' P' a ∧ Below W.heap.size W w' :=
  (copy_any a A c P W (h.m ht) (fun i t hi => h.nils i t hi)).mono fun _ _ ⟨A', c', P', h1, h2, h3⟩ => ⟨A', c', P', h1, h2.m, h3⟩
theorem placeL {a : Ar.Are} {A : Option Addr} {c : Nat} {P : Nat → Option Addr × Nat} {W : World} (id arg : Int) (h : ArM W A P a) : Calls Tryz.prog 35 #[.agg #[.slice A a.ids.length c, .bool a.root.cell, .int .i64 a.root.n, .bool a.jumps], .int .i64 id, .int .i64 arg] W fun e w' => e = .returned (.tuple #[.agg #[.bool (Ar.placeRes a id arg).cell, .int .i64 (Ar.placeRes a id arg).n], .int .i64 (Ar.placeErr a id arg : Int)]) ∧ Below W.heap.size W w' :=
  Place_any a A c P id arg W h
theorem foundL {a : Ar.Are} {A : Option Addr} {c : Nat} {P : Nat → Option Addr × Nat} {W : World} (id arg : Int) (h : ArM W A P a) : Calls Tryz.prog 37 #[.agg #[.slice A a.ids.length c, .bool a.root.cell, .int .i64 a.root.n, .bool a.jumps], .int .i64 id, .int .i64 arg] W fun e w' => e = .returned (.tuple #[.agg #[.bool (Ar.placeRes a id arg).cell, .int .i64 (Ar.placeRes a id arg).n], .int .i64 (Ar.placeErr a id arg : Int)]) ∧ Below W.heap.size W w' :=
  refFound_any a A c P id arg W h
theorem innerL {a : Ar.Are} {A : Option Addr} {c : Nat} {P : Nat → Option Addr × Nat} {W : World} (id : Int) (h : ArM W A P a) : Calls Tryz.prog 36 #[.agg #[.slice A a.ids.length c, .bool a.root.cell, .int .i64 a.root.n, .bool a.jumps], .int .i64 id] W fun e w' => ∃ A' c' P', e = .returned (.tuple #[.agg #[.slice A' (Ar.innerRes a id).ids.length c', .bool (Ar.innerRes a id).root.cell, .int .i64 (Ar.innerRes a id).root.n, .bool (Ar.innerRes a id).jumps], .int .i64 (Ar.innerErr a id : Int)]) ∧ ArM w' A' P' (Ar.innerRes a id) ∧ Below W.heap.size W w' :=
  inner_any a A c P id W h
theorem refInnerL {a : Ar.Are} {A : Option Addr} {c : Nat} {P : Nat → Option Addr × Nat} {W : World} (id : Int) (h : ArM W A P a) : Calls Tryz.prog 38 #[.agg #[.slice A a.ids.length c, .bool a.root.cell, .int .i64 a.root.n, .bool a.jumps], .int .i64 id] W fun e w' => ∃ A' c' P', e = .returned (.tuple #[.agg #[.slice A' (Ar.innerRes a id).ids.length c', .bool (Ar.innerRes a id).root.cell, .int .i64 (Ar.innerRes a id).root.n, .bool (Ar.innerRes a id).jumps], .int .i64 (Ar.innerErr a id : Int)]) ∧ ArM w' A' P' (Ar.innerRes a id) ∧ Below W.heap.size W w' :=
  refInner_any a A c P id W h
theorem sameL {a : Ar.Are} {A B : Option Addr} {c d : Nat} {P Q : Nat → Option Addr × Nat} {W : World} (h : ArM W A P a) (k : ArM W B Q a) : Calls Tryz.prog 26 #[.agg #[.slice A a.ids.length c, .bool a.root.cell, .int .i64 a.root.n, .bool a.jumps], .agg #[.slice B a.ids.length d, .bool a.root.cell, .int .i64 a.root.n, .bool a.jumps]] W fun e w' => e = .returned (.bool true) ∧ Below W.heap.size W w' :=
  same_any a A B c d P Q W h k
theorem keep_blk {W W' : World} {k : Nat} {o : Obj} (h : Hid (W.heap[k]? = some o)) (hB : Below W.heap.size W W') : Hid (W'.heap[k]? = some o) := (hB.block k (lt_of_heap h.out)).trans h.out
theorem keep_al {W : World} {k : Nat} {o : Obj} (o' : Obj) (h : Hid (W.heap[k]? = some o)) : Hid ((W.alloc o').heap[k]? = some o) := (Below.heap_alloc W o' k (lt_of_heap h.out)).trans h.out
theorem new_blk (W : World) (o : Obj) : Hid ((W.alloc o).heap[W.heap.size]? = some o) := World.alloc_heap_new W o
theorem below_al (W : World) (o : Obj) : Below W.heap.size W (W.alloc o) := (Below.refl _ _).alloc (Nat.le_refl _) _

set_option maxRecDepth 100000 in
set_option maxHeartbeats 8000000 in
theorem law_places (a : Ar.Are) (A : Option Addr) (c : Nat) (P : Nat → Option Addr × Nat) (w : World) (hM : AreM w A c P a) (x y : Int) (hV : GV w) (hG : GT w) :
    Calls Tryz.prog 5 #[arV A c a, .agg #[.int .i64 x, .int .i64 y]] w fun e w' => e = .returned (.bool true) ∧ Below w.heap.size w w' := by
  have hav : arV A c a = .agg #[.slice A a.ids.length c, .bool a.root.cell, .int .i64 a.root.n, .bool a.jumps] := rfl
  rw [hav]
  have hB0 := below_two (w := w) (.cells #[.slice A a.ids.length c, .bool a.root.cell, .int .i64 a.root.n, .bool a.jumps] 26 (0, 0)) (.cells #[.int .i64 x, .int .i64 y] 46 (0, 0))
  have q0 := Lib.hid (two_new1 w (.cells #[.slice A a.ids.length c, .bool a.root.cell, .int .i64 a.root.n, .bool a.jumps] 26 (0, 0)) (.cells #[.int .i64 x, .int .i64 y] 46 (0, 0)))
  have q1 := Lib.hid (two_new2 w (.cells #[.slice A a.ids.length c, .bool a.root.cell, .int .i64 a.root.n, .bool a.jumps] 26 (0, 0)) (.cells #[.int .i64 x, .int .i64 y] 46 (0, 0)))
  have HM := Lib.hid (hM.below hB0)
  have HA := Lib.hid (fun W (hB : Below w.heap.size w W) => awake_any W (hV.below hB) (hG.below hB))
  have HT := Lib.hid (thinL HM.out)
  have hBw := Lib.hid hB0
  obtain ⟨e0, e1, e2, e3, -, -, -, -⟩ := cells4 q0.out
  clear hM hV hG hav hB0
  cases ht : Ar.thinOf a
  · rw [ht] at HT
    clear ht
    go_enter Tryz.func5, Tryz.ntmps5
    go_wp2_with (first
      | (go_at_call 17; refine (HA.out _ hBw.out).mono ?_; rintro e w6 ⟨rfl, hB6⟩)
      | (go_at_call 16; refine HT.out.mono ?_; rintro e w2 ⟨rfl, hB2⟩; have hBw := Lib.hid (hBw.out.trans (hB2.mono hBw.out.size))))
    go_ret
    exact ⟨rfl, hBw.out.trans (hB6.mono hBw.out.size)⟩
  · rw [ht] at HT
    have HTH := Lib.hid ht
    have qe := fun W => bs_eql W (Ar.placeRes a x y)
    have qg : ∀ (x y : Operand) (xs ys : Array Value) (w : World), (eqGuard .eql 24 x y (.agg xs) (.agg ys)).run Tryz.prog w = .ok () w := fun x y xs ys w => run_eqGuard_agg w _ _ x y xs ys (by kernel_rfl)
    have HPL := Lib.hid (fun (W : World) (B : Option Addr) (d : Nat) (Q : Nat → Option Addr × Nat) (h : ArM W B Q a) => placeL (c := d) x y h)
    have HFD := Lib.hid (fun (W : World) (B : Option Addr) (d : Nat) (Q : Nat → Option Addr × Nat) (h : ArM W B Q a) => foundL (c := d) x y h)
    have HIN := Lib.hid (fun (W : World) (B : Option Addr) (d : Nat) (Q : Nat → Option Addr × Nat) (h : ArM W B Q a) => innerL (c := d) x h)
    have HRI := Lib.hid (fun (W : World) (B : Option Addr) (d : Nat) (Q : Nat → Option Addr × Nat) (h : ArM W B Q a) => refInnerL (c := d) x h)
    clear ht
    generalize Ar.placeRes a x y = X at *
    generalize Ar.placeErr a x y = E at *
    generalize Ar.innerRes a x = I at *
    generalize Ar.innerErr a x = F at *
    obtain ⟨f0, f1, -, -⟩ := cells2 q1.out
    go_enter Tryz.func5, Tryz.ntmps5
    go_wp2_with (first
      | (go_at_call 17; refine (HA.out _ hBw.out).mono ?_; rintro e wa ⟨rfl, hBa⟩)
      | (go_at_call 26; have _t := hs8; refine (sameL (HM.out.m HTH.out) HMb.out).mono ?_; rintro e w9 ⟨rfl, hB9⟩; have hBw := Lib.hid (hBw.out.trans (hB9.mono hBw.out.size)))
      | (go_at_call 26; refine (sameL HMc.out HMd.out).mono ?_; rintro e w8 ⟨rfl, hB8⟩; have hBw := Lib.hid (hBw.out.trans (hB8.mono hBw.out.size)); have q0 := keep_blk q0 hB8; have q2 := keep_blk q2 hB8; have HM := Lib.hid (HM.out.below hB8); have HMb := Lib.hid (HMb.out.below hB8); have hs8 := Lib.hid hB8; obtain ⟨e0, e1, e2, e3, -, -, -, -⟩ := cells4 q0.out; obtain ⟨b0, b1, b2, b3, -, -, -, -⟩ := cells4 q2.out)
      | (go_at_call 38; refine (HRI.out _ _ _ _ (HM.out.m HTH.out)).mono ?_; rintro e w7 ⟨Ad, cd, Pd, rfl, hMd, hB7⟩; have hBw := Lib.hid (hBw.out.trans (hB7.mono hBw.out.size)); have q0 := keep_blk q0 hB7; have q1 := keep_blk q1 hB7; have q2 := keep_blk q2 hB7; have q3 := keep_blk q3 hB7; have q4 := keep_blk q4 hB7; have q5 := keep_blk q5 hB7; have HM := Lib.hid (HM.out.below hB7); have HMb := Lib.hid (HMb.out.below hB7); have HMc := Lib.hid (HMc.out.below hB7); have hBw := Lib.hid (hBw.out.trans ((below_al w7 (.cells #[.slice Ad I.ids.length cd, .bool I.root.cell, .int .i64 I.root.n, .bool I.jumps] 26 (0, 0))).mono hBw.out.size)); have q0 := keep_al (.cells #[.slice Ad I.ids.length cd, .bool I.root.cell, .int .i64 I.root.n, .bool I.jumps] 26 (0, 0)) q0; have q1 := keep_al (.cells #[.slice Ad I.ids.length cd, .bool I.root.cell, .int .i64 I.root.n, .bool I.jumps] 26 (0, 0)) q1; have q2 := keep_al (.cells #[.slice Ad I.ids.length cd, .bool I.root.cell, .int .i64 I.root.n, .bool I.jumps] 26 (0, 0)) q2; have q3 := keep_al (.cells #[.slice Ad I.ids.length cd, .bool I.root.cell, .int .i64 I.root.n, .bool I.jumps] 26 (0, 0)) q3; have q4 := keep_al (.cells #[.slice Ad I.ids.length cd, .bool I.root.cell, .int .i64 I.root.n, .bool I.jumps] 26 (0, 0)) q4; have q5 := keep_al (.cells #[.slice Ad I.ids.length cd, .bool I.root.cell, .int .i64 I.root.n, .bool I.jumps] 26 (0, 0)) q5; have q6 := new_blk w7 (.cells #[.slice Ad I.ids.length cd, .bool I.root.cell, .int .i64 I.root.n, .bool I.jumps] 26 (0, 0)); have HM := Lib.hid (HM.out.below (below_al w7 (.cells #[.slice Ad I.ids.length cd, .bool I.root.cell, .int .i64 I.root.n, .bool I.jumps] 26 (0, 0)))); have HMb := Lib.hid (HMb.out.below (below_al w7 (.cells #[.slice Ad I.ids.length cd, .bool I.root.cell, .int .i64 I.root.n, .bool I.jumps] 26 (0, 0)))); have HMc := Lib.hid (HMc.out.below (below_al w7 (.cells #[.slice Ad I.ids.length cd, .bool I.root.cell, .int .i64 I.root.n, .bool I.jumps] 26 (0, 0)))); have HMd := Lib.hid (hMd.below (below_al w7 (.cells #[.slice Ad I.ids.length cd, .bool I.root.cell, .int .i64 I.root.n, .bool I.jumps] 26 (0, 0)))); clear hMd; obtain ⟨e0, e1, e2, e3, -, -, -, -⟩ := cells4 q0.out; obtain ⟨b0, b1, b2, b3, -, -, -, -⟩ := cells4 q2.out; obtain ⟨g0, g1, -, -⟩ := cells2 q3.out; obtain ⟨h0, h1, -, -⟩ := cells2 q5.out; obtain ⟨k0, k1, k2, k3, -, -, -, -⟩ := cells4 q4.out; obtain ⟨l0, l1, l2, l3, -, -, -, -⟩ := cells4 q6.out)
      | (go_at_call 37; refine (HFD.out _ _ _ _ (HM.out.m HTH.out)).mono ?_; rintro e w6 ⟨rfl, hB6⟩; have hBw := Lib.hid (hBw.out.trans (hB6.mono hBw.out.size)); have q0 := keep_blk q0 hB6; have q1 := keep_blk q1 hB6; have q2 := keep_blk q2 hB6; have q3 := keep_blk q3 hB6; have q4 := keep_blk q4 hB6; have HM := Lib.hid (HM.out.below hB6); have HMb := Lib.hid (HMb.out.below hB6); have HMc := Lib.hid (HMc.out.below hB6); have hBw := Lib.hid (hBw.out.trans ((below_al w6 (.cells #[.bool X.cell, .int .i64 X.n] 24 (0, 0))).mono hBw.out.size)); have q0 := keep_al (.cells #[.bool X.cell, .int .i64 X.n] 24 (0, 0)) q0; have q1 := keep_al (.cells #[.bool X.cell, .int .i64 X.n] 24 (0, 0)) q1; have q2 := keep_al (.cells #[.bool X.cell, .int .i64 X.n] 24 (0, 0)) q2; have q3 := keep_al (.cells #[.bool X.cell, .int .i64 X.n] 24 (0, 0)) q3; have q4 := keep_al (.cells #[.bool X.cell, .int .i64 X.n] 24 (0, 0)) q4; have q5 := new_blk w6 (.cells #[.bool X.cell, .int .i64 X.n] 24 (0, 0)); have HM := Lib.hid (HM.out.below (below_al w6 (.cells #[.bool X.cell, .int .i64 X.n] 24 (0, 0)))); have HMb := Lib.hid (HMb.out.below (below_al w6 (.cells #[.bool X.cell, .int .i64 X.n] 24 (0, 0)))); have HMc := Lib.hid (HMc.out.below (below_al w6 (.cells #[.bool X.cell, .int .i64 X.n] 24 (0, 0)))); obtain ⟨e0, e1, e2, e3, -, -, -, -⟩ := cells4 q0.out; obtain ⟨f0, f1, -, -⟩ := cells2 q1.out)
      | (go_at_call 36; refine (HIN.out _ _ _ _ HMb.out).mono ?_; rintro e w5 ⟨Ac, cc, Pc, rfl, hMc, hB5⟩; have hBw := Lib.hid (hBw.out.trans (hB5.mono hBw.out.size)); have q0 := keep_blk q0 hB5; have q1 := keep_blk q1 hB5; have q2 := keep_blk q2 hB5; have q3 := keep_blk q3 hB5; have HM := Lib.hid (HM.out.below hB5); have HMb := Lib.hid (HMb.out.below hB5); have hBw := Lib.hid (hBw.out.trans ((below_al w5 (.cells #[.slice Ac I.ids.length cc, .bool I.root.cell, .int .i64 I.root.n, .bool I.jumps] 26 (0, 0))).mono hBw.out.size)); have q0 := keep_al (.cells #[.slice Ac I.ids.length cc, .bool I.root.cell, .int .i64 I.root.n, .bool I.jumps] 26 (0, 0)) q0; have q1 := keep_al (.cells #[.slice Ac I.ids.length cc, .bool I.root.cell, .int .i64 I.root.n, .bool I.jumps] 26 (0, 0)) q1; have q2 := keep_al (.cells #[.slice Ac I.ids.length cc, .bool I.root.cell, .int .i64 I.root.n, .bool I.jumps] 26 (0, 0)) q2; have q3 := keep_al (.cells #[.slice Ac I.ids.length cc, .bool I.root.cell, .int .i64 I.root.n, .bool I.jumps] 26 (0, 0)) q3; have q4 := new_blk w5 (.cells #[.slice Ac I.ids.length cc, .bool I.root.cell, .int .i64 I.root.n, .bool I.jumps] 26 (0, 0)); have HM := Lib.hid (HM.out.below (below_al w5 (.cells #[.slice Ac I.ids.length cc, .bool I.root.cell, .int .i64 I.root.n, .bool I.jumps] 26 (0, 0)))); have HMb := Lib.hid (HMb.out.below (below_al w5 (.cells #[.slice Ac I.ids.length cc, .bool I.root.cell, .int .i64 I.root.n, .bool I.jumps] 26 (0, 0)))); have HMc := Lib.hid (hMc.below (below_al w5 (.cells #[.slice Ac I.ids.length cc, .bool I.root.cell, .int .i64 I.root.n, .bool I.jumps] 26 (0, 0)))); clear hMc; obtain ⟨e0, e1, e2, e3, -, -, -, -⟩ := cells4 q0.out; obtain ⟨f0, f1, -, -⟩ := cells2 q1.out)
      | (go_at_call 35; refine (HPL.out _ _ _ _ HMb.out).mono ?_; rintro e w4 ⟨rfl, hB4⟩; have hBw := Lib.hid (hBw.out.trans (hB4.mono hBw.out.size)); have q0 := keep_blk q0 hB4; have q1 := keep_blk q1 hB4; have q2 := keep_blk q2 hB4; have HM := Lib.hid (HM.out.below hB4); have HMb := Lib.hid (HMb.out.below hB4); have hBw := Lib.hid (hBw.out.trans ((below_al w4 (.cells #[.bool X.cell, .int .i64 X.n] 24 (0, 0))).mono hBw.out.size)); have q0 := keep_al (.cells #[.bool X.cell, .int .i64 X.n] 24 (0, 0)) q0; have q1 := keep_al (.cells #[.bool X.cell, .int .i64 X.n] 24 (0, 0)) q1; have q2 := keep_al (.cells #[.bool X.cell, .int .i64 X.n] 24 (0, 0)) q2; have q3 := new_blk w4 (.cells #[.bool X.cell, .int .i64 X.n] 24 (0, 0)); have HM := Lib.hid (HM.out.below (below_al w4 (.cells #[.bool X.cell, .int .i64 X.n] 24 (0, 0)))); have HMb := Lib.hid (HMb.out.below (below_al w4 (.cells #[.bool X.cell, .int .i64 X.n] 24 (0, 0)))); obtain ⟨b0, b1, b2, b3, -, -, -, -⟩ := cells4 q2.out; obtain ⟨f0, f1, -, -⟩ := cells2 q1.out)
      | (go_at_call 18; refine (copyL HM.out HTH.out).mono ?_; rintro e w3 ⟨Ab, cb, Pb, rfl, hMb, hB3⟩; have hBw := Lib.hid (hBw.out.trans (hB3.mono hBw.out.size)); have q0 := keep_blk q0 hB3; have q1 := keep_blk q1 hB3; have HM := Lib.hid (HM.out.below hB3); have hBw := Lib.hid (hBw.out.trans ((below_al w3 (.cells #[.slice Ab a.ids.length cb, .bool a.root.cell, .int .i64 a.root.n, .bool a.jumps] 26 (0, 0))).mono hBw.out.size)); have q0 := keep_al (.cells #[.slice Ab a.ids.length cb, .bool a.root.cell, .int .i64 a.root.n, .bool a.jumps] 26 (0, 0)) q0; have q1 := keep_al (.cells #[.slice Ab a.ids.length cb, .bool a.root.cell, .int .i64 a.root.n, .bool a.jumps] 26 (0, 0)) q1; have q2 := new_blk w3 (.cells #[.slice Ab a.ids.length cb, .bool a.root.cell, .int .i64 a.root.n, .bool a.jumps] 26 (0, 0)); have HM := Lib.hid (HM.out.below (below_al w3 (.cells #[.slice Ab a.ids.length cb, .bool a.root.cell, .int .i64 a.root.n, .bool a.jumps] 26 (0, 0)))); have HMb := Lib.hid (hMb.below (below_al w3 (.cells #[.slice Ab a.ids.length cb, .bool a.root.cell, .int .i64 a.root.n, .bool a.jumps] 26 (0, 0)))); clear hMb; obtain ⟨b0, b1, b2, b3, -, -, -, -⟩ := cells4 q2.out; obtain ⟨f0, f1, -, -⟩ := cells2 q1.out)
      | (go_at_call 16; refine (HT.out).mono ?_; rintro e w2 ⟨rfl, hB2⟩; have hBw := Lib.hid (hBw.out.trans (hB2.mono hBw.out.size)); have q0 := keep_blk q0 hB2; have q1 := keep_blk q1 hB2; have HM := Lib.hid (HM.out.below hB2); obtain ⟨e0, e1, e2, e3, -, -, -, -⟩ := cells4 q0.out; obtain ⟨f0, f1, -, -⟩ := cells2 q1.out))
    go_ret
    exact ⟨rfl, hBw.out.trans (hBa.mono hBw.out.size)⟩
end Go.Proofs.YtbfpgjnagpcbeaaGreatDoor
