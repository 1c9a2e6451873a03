/-
  WALKS: ArenaAdds.
-/
import Derived.Test.YtbfpgjnagpcbeaaGreatDoorGe
import Derived.Test.YtbfpgjnagpcbeaaGreatDoorDg
import Derived.Test.YtbfpgjnagpcbeaaGreatDoorDs
namespace Go.Proofs.YtbfpgjnagpcbeaaGreatDoor
open Go.RowKit Go.MapKept Go.Shelf

theorem copyO {a : Ar.Are} {A : Option Addr} {c : Nat} {P : Nat → Option Addr × Nat} {W : World} (h : AreM W A c P a) (ht : Ar.thinOf a = true) : Calls Tryz.prog 18 #[.agg #[.slice A a.ids.length c, .bool a.root.cell, .int .i64 a.root.n, .bool a.jumps]] W fun e w' => ∃ A' c' P', e = .returned (.agg #[.slice A' a.ids.length c', .bool a.root.cell, .int .i64 a.root.n, .bool a.jumps]) ∧ ArO w' W.heap.size A' c' P' a ∧ Below W.heap.size W w' :=
  copy_any a A c P W (h.m ht) (fun i t hi => h.nils i t hi)
/-- A list of types as an arena of nothing else. -/
def listAre (l : List Ar.Ty) : Ar.Are := ⟨l, ⟨false, 0⟩, false⟩
/-- The call's own blocks: the arena handed in, and two copies. -/
structure AC (w : World) (a : Ar.Are) (l : List Ar.Ty) (A : Option Addr) (c : Nat) (A1 : Option Addr) (c1 : Nat) (P1 : Nat → Option Addr × Nat) (A2 : Option Addr) (c2 : Nat) (P2 : Nat → Option Addr × Nat) (b1 b2 : Nat) (W : World) : Prop where
  oa : OA w a A c W
  blk1 : W.heap[b1]? = some (.cells #[.slice A1 a.ids.length c1, .bool a.root.cell, .int .i64 a.root.n, .bool a.jumps] 26 (0, 0))
  blk2 : W.heap[b2]? = some (.cells #[.slice A2 l.length c2, .bool false, .int .i64 0, .bool false] 26 (0, 0))
  m1 : ArM W A1 P1 a
  m2 : ArM W A2 P2 (listAre l)
theorem AC.next {w : World} {a : Ar.Are} {l : List Ar.Ty} {A : Option Addr} {c : Nat} {A1 : Option Addr} {c1 : Nat} {P1 : Nat → Option Addr × Nat} {A2 : Option Addr} {c2 : Nat} {P2 : Nat → Option Addr × Nat} {b1 b2 : Nat} {W W' : World} (h : AC w a l A c A1 c1 P1 A2 c2 P2 b1 b2 W) (hB : Below W.heap.size W W') : AC w a l A c A1 c1 P1 A2 c2 P2 b1 b2 W' :=
  ⟨h.oa.next hB, (hB.block _ (lt_of_heap h.blk1)).trans h.blk1, (hB.block _ (lt_of_heap h.blk2)).trans h.blk2, h.m1.below hB, h.m2.below hB⟩
theorem AC.first {w : World} {a : Ar.Are} {l : List Ar.Ty} {A : Option Addr} {c : Nat} {A1 : Option Addr} {c1 : Nat} {P1 : Nat → Option Addr × Nat} {A2 : Option Addr} {c2 : Nat} {P2 : Nat → Option Addr × Nat} {W : World} (h : OA w a A c W) (m1 : ArM W A1 P1 a) (m2 : ArM W A2 P2 (listAre l)) :
    AC w a l A c A1 c1 P1 A2 c2 P2 W.heap.size (W.heap.size + 1) ((W.alloc (.cells #[.slice A1 a.ids.length c1, .bool a.root.cell, .int .i64 a.root.n, .bool a.jumps] 26 (0, 0))).alloc (.cells #[.slice A2 l.length c2, .bool false, .int .i64 0, .bool false] 26 (0, 0))) :=
  ⟨h.next (below_two _ _), two_new1 _ _ _, two_new2 _ _ _, m1.below (below_two _ _), m2.below (below_two _ _)⟩
/-- An arena in a block of the call's own. -/
def AB1 (b : Nat) (r : Ar.Are) (A : Option Addr) (c : Nat) (W : World) : Prop := W.heap[b]? = some (.cells #[.slice A r.ids.length c, .bool r.root.cell, .int .i64 r.root.n, .bool r.jumps] 26 (0, 0))
theorem AB1.next {b : Nat} {r : Ar.Are} {A : Option Addr} {c : Nat} {W W' : World} (h : AB1 b r A c W) (hB : Below W.heap.size W W') : AB1 b r A c W' := (hB.block _ (lt_of_heap h)).trans h
theorem AB1.first (W : World) (r : Ar.Are) (A : Option Addr) (c : Nat) : AB1 W.heap.size r A c (W.alloc (.cells #[.slice A r.ids.length c, .bool r.root.cell, .int .i64 r.root.n, .bool r.jumps] 26 (0, 0))) := World.alloc_heap_new _ _
theorem below_are (W : World) (r : Ar.Are) (A : Option Addr) (c : Nat) : Below W.heap.size W (W.alloc (.cells #[.slice A r.ids.length c, .bool r.root.cell, .int .i64 r.root.n, .bool r.jumps] 26 (0, 0))) := (Below.refl _ _).alloc (Nat.le_refl _) _

set_option maxRecDepth 100000 in
set_option maxHeartbeats 8000000 in
theorem law_adds (a : Ar.Are) (A : Option Addr) (c : Nat) (P : Nat → Option Addr × Nat) (w : World) (hM : AreM w A c P a) (l : List Ar.Ty) (B : Option Addr) (d : Nat) (Q : Nat → Option Addr × Nat) (hN : AreM w B d Q (listAre l)) (hV : GV w) (hG : GT w) :
    Calls Tryz.prog 6 #[arV A c a, .slice B l.length d] w fun e w' => e = .returned (.bool true) ∧ Below w.heap.size w w' := by
  have hav : arV A c a = .agg #[.slice A a.ids.length c, .bool a.root.cell, .int .i64 a.root.n, .bool a.jumps] := rfl
  rw [hav]
  have HF := Lib.hid (OA.first w a A c)
  obtain ⟨e0, e1, e2, e3, -, -, -, -⟩ := cells4 HF.out.arg
  have HA := Lib.hid (fun W (hB : Below w.heap.size w W) => awake_any W (hV.below hB) (hG.below hB))
  have HT := Lib.hid (thinL (hM.below HF.out.below))
  have HU := Lib.hid (fun W (hB : Below w.heap.size w W) => show Calls Tryz.prog 16 #[.agg #[.slice B l.length d, .bool false, .int .i64 0, .bool false]] W fun e w' => e = .returned (.bool (Ar.thinOf (listAre l))) ∧ Below W.heap.size W w' from thinL (hN.below hB))
  cases ht : Ar.thinOf a
  · rw [ht] at HT
    clear ht hM hN hV hG hav HU
    go_enter Tryz.func6, Tryz.ntmps6
    go_wp2_with (first
      | (go_at_call 17; refine (HA.out _ hF2.below).mono ?_; rintro e w6 ⟨rfl, hB6⟩)
      | (go_at_call 16; refine HT.out.mono ?_; rintro e w2 ⟨rfl, hB2⟩; have hF2 := HF.out.next hB2))
    go_ret
    exact ⟨rfl, hF2.below.trans (hB6.mono hF2.below.size)⟩
  · rw [ht] at HT
    cases hu : Ar.thinOf (listAre l)
    · rw [hu] at HU
      clear ht hu hM hN hV hG hav
      go_enter Tryz.func6, Tryz.ntmps6
      go_wp2_with (first
        | (go_at_call 17; refine (HA.out _ hF3.below).mono ?_; rintro e w6 ⟨rfl, hB6⟩)
        | (go_at_call 16; have _t := hB2; refine (HU.out _ hF2.below).mono ?_; rintro e w3 ⟨rfl, hB3⟩; have hF3 := hF2.next hB3)
        | (go_at_call 16; refine HT.out.mono ?_; rintro e w2 ⟨rfl, hB2⟩; have hF2 := HF.out.next hB2))
      go_ret
      exact ⟨rfl, hF3.below.trans (hB6.mono hF3.below.size)⟩
    · rw [hu] at HU
      obtain ⟨l12, l8⟩ := Ar.thin_bounds ht
      obtain ⟨k12, k8⟩ := Ar.thin_bounds hu
      have k12' : l.length ≤ 12 := k12
      have k8' : ∀ t ∈ l, t.params.length ≤ 8 := k8
      have HC1 := Lib.hid (fun W (hB : Below w.heap.size w W) => copyO (hM.below hB) ht)
      have HC2 := Lib.hid (fun W (hB : Below w.heap.size w W) => show Calls Tryz.prog 18 #[.agg #[.slice B l.length d, .bool false, .int .i64 0, .bool false]] W fun e w' => ∃ A' c' P', e = .returned (.agg #[.slice A' l.length c', .bool false, .int .i64 0, .bool false]) ∧ ArO w' W.heap.size A' c' P' (listAre l) ∧ Below W.heap.size W w' from copyO (hN.below hB) hu)
      have HAD := Lib.hid (fun (W W1 W2 : World) (n1 n2 : Nat) (A1 : Option Addr) (c1 : Nat) (P1 : Nat → Option Addr × Nat) (A2 : Option Addr) (c2 : Nat) (P2 : Nat → Option Addr × Nat) (m1 : ArM W A1 P1 a) (m2 : ArM W A2 P2 (listAre l)) (o1 : ArO W1 n1 A1 c1 P1 a) (o2 : ArO W2 n2 A2 c2 P2 (listAre l)) =>
        add_any a l A1 A2 c1 c2 P1 P2 W m1 m2.tys (fun h => ⟨(o1.nil h).1, by rw [(o1.nil h).2]; rfl⟩) (fun h => ⟨(o2.nil h).1, by have : l = [] := (o2.nil h).2; rw [this]; rfl⟩) o1.nils o2.nils (by omega) (by omega) (fun t ht => by have := k8' t ht; omega))
      have HRA := Lib.hid (fun W (hB : Below w.heap.size w W) => refAdd_any a l A B c d P Q W ((hM.below hB).m ht) (hN.below hB).tys (hM.below hB).nils (hN.below hB).nils (by omega) (by omega) (fun t ht => by have := k8' t ht; omega))
      have HS1 := Lib.hid (fun (W : World) (A1 : Option Addr) (c1 : Nat) (P1 : Nat → Option Addr × Nat) (h : ArM W A1 P1 a) (hB : Below w.heap.size w W) => sameL (c := c) (d := c1) ((hM.below hB).m ht) h)
      have HS2 := Lib.hid (fun (W : World) (A2 : Option Addr) (c2 : Nat) (P2 : Nat → Option Addr × Nat) (h : ArM W A2 P2 (listAre l)) (hB : Below w.heap.size w W) => show Calls Tryz.prog 26 #[.agg #[.slice A2 l.length c2, .bool false, .int .i64 0, .bool false], .agg #[.slice B l.length d, .bool false, .int .i64 0, .bool false]] W fun e w' => e = .returned (.bool true) ∧ Below W.heap.size W w' from sameL (a := listAre l) (A := A2) (B := B) (c := c2) (d := d) (P := P2) (Q := Q) (W := W) h ((hN.below hB).m hu))
      clear ht hu hM hN hV hG hav l12 l8 k12 k8 k12' k8'
      generalize Ar.addRes a l = R at *
      generalize Ar.addErr a l = E at *
      have HS3 := Lib.hid (fun (W : World) (A1 A2 : Option Addr) (c1 c2 : Nat) (P1 P2 : Nat → Option Addr × Nat) (h : ArM W A1 P1 R) (k : ArM W A2 P2 R) => sameL (c := c1) (d := c2) h k)
      go_enter Tryz.func6, Tryz.ntmps6
      go_wp2_with (first
        | (go_at_call 17; refine (HA.out _ hcc.oa.below).mono ?_; rintro e wa ⟨rfl, hBa⟩)
        | (go_at_call 26; have _t := hB9; refine (HS2.out _ _ _ _ hcb.m2 hcb.oa.below).mono ?_; rintro e w10 ⟨rfl, hB10⟩; have hcc := hcb.next hB10)
        | (go_at_call 26; have _t := hB8; refine (HS1.out _ _ _ _ hca.m1 hca.oa.below).mono ?_; rintro e w9 ⟨rfl, hB9⟩; have hcb := hca.next hB9; obtain ⟨t0, t1, t2, t3, -, -, -, -⟩ := cells4 hcb.blk2)
        | (go_at_call 26; have _t := hB7; refine (HS3.out _ _ _ _ _ _ _ hr7 hs7).mono ?_; rintro e w8 ⟨rfl, hB8⟩; have hca := hc8.next hB8; obtain ⟨r0, r1, r2, r3, -, -, -, -⟩ := cells4 hca.oa.arg; obtain ⟨s0, s1, s2, s3, -, -, -, -⟩ := cells4 hca.blk1)
        | (go_at_call 40; have _t := hB6; refine (HRA.out _ hc7.oa.below).mono ?_; rintro e w7 ⟨A7, c7, P7, rfl, hm7, hB7⟩; have hc8 := (hc7.next hB7).next (below_are w7 R A7 c7); have hr7 := (hr6.below hB7).below (below_are w7 R A7 c7); have hs7 := hm7.below (below_are w7 R A7 c7); have hq7 := (hq6.next hB7).next (below_are w7 R A7 c7); have hp7 := AB1.first w7 R A7 c7; obtain ⟨p0, p1, p2, p3, -, -, -, -⟩ := cells4 hq7; obtain ⟨q0, q1, q2, q3, -, -, -, -⟩ := cells4 hp7)
        | (go_at_call 39; have _t := hB4; refine (HAD.out _ _ _ _ _ _ _ _ _ _ _ hc5.m1 hc5.m2 ho3 ho4).mono ?_; rintro e w6 ⟨A6, c6, P6, rfl, hm6, hB6⟩; have hc7 := (hc5.next hB6).next (below_are w6 R A6 c6); have hr6 := hm6.below (below_are w6 R A6 c6); have hq6 := AB1.first w6 R A6 c6; obtain ⟨z0, z1, z2, z3, -, -, -, -⟩ := cells4 hc7.oa.arg)
        | (go_at_call 18; have _t := hB3; refine (HC2.out _ hF3.below).mono ?_; rintro e w4 ⟨A4, c4, P4, rfl, ho4, hB4⟩; have hc5 := AC.first (c1 := c3) (c2 := c4) (hF3.next hB4) (ho3.m.below hB4) ho4.m; obtain ⟨y0, y1, y2, y3, -, -, -, -⟩ := cells4 hc5.blk1; obtain ⟨v0, v1, v2, v3, -, -, -, -⟩ := cells4 hc5.blk2)
        | (go_at_call 18; have _t := hBt; refine (HC1.out _ hFt.below).mono ?_; rintro e w3 ⟨A3, c3, P3, rfl, ho3, hB3⟩; have hF3 := hFt.next hB3)
        | (go_at_call 16; have _t := hB2; refine (HU.out _ hF2.below).mono ?_; rintro e wt ⟨rfl, hBt⟩; have hFt := hF2.next hBt; obtain ⟨x0, x1, x2, x3, -, -, -, -⟩ := cells4 hFt.arg)
        | (go_at_call 16; refine HT.out.mono ?_; rintro e w2 ⟨rfl, hB2⟩; have hF2 := HF.out.next hB2))
      go_ret
      exact ⟨rfl, hcc.oa.below.trans (hBa.mono hcc.oa.below.size)⟩
end Go.Proofs.YtbfpgjnagpcbeaaGreatDoor
