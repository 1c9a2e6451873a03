/-
  WALKS: ArenaChecks.
-/
import Derived.Test.YtbfpgjnagpcbeaaGreatDoorFr
import Derived.Test.YtbfpgjnagpcbeaaGreatDoorDs
import Derived.Test.YtbfpgjnagpcbeaaGreatDoorBv
namespace Go.Proofs.YtbfpgjnagpcbeaaGreatDoor
open Go.RowKit Go.MapKept Go.Shelf

/-- An arena handed in, and its copy in a block of the call's own. -/
structure C2 (w : World) (a : Ar.Are) (A : Option Addr) (c nb : Nat) (B : Option Addr) (d : Nat) (Q : Nat → Option Addr × Nat) (W : World) : Prop where
  oa : OA w a A c W
  blk : W.heap[nb]? = some (.cells #[.slice B a.ids.length d, .bool a.root.cell, .int .i64 a.root.n, .bool a.jumps] 26 (0, 0))
  am : ArM W B Q a
theorem ArM.nextM {W W' : World} {B : Option Addr} {Q : Nat → Option Addr × Nat} {a : Ar.Are} (h : ArM W B Q a) (hB : Below W.heap.size W W') : ArM W' B Q a := h.below hB
theorem C2.next {w : World} {a : Ar.Are} {A : Option Addr} {c nb : Nat} {B : Option Addr} {d : Nat} {Q : Nat → Option Addr × Nat} {W W' : World} (h : C2 w a A c nb B d Q W) (hB : Below W.heap.size W W') : C2 w a A c nb B d Q W' :=
  ⟨h.oa.next hB, (hB.block _ (lt_of_heap h.blk)).trans h.blk, h.am.nextM hB⟩
theorem C2.first {w : World} {a : Ar.Are} {A : Option Addr} {c : Nat} {B : Option Addr} {d : Nat} {Q : Nat → Option Addr × Nat} {W : World} (h : OA w a A c W) (k : ArM W B Q a) : C2 w a A c W.heap.size B d Q (W.alloc (.cells #[.slice B a.ids.length d, .bool a.root.cell, .int .i64 a.root.n, .bool a.jumps] 26 (0, 0))) :=
  ⟨h.next ((Below.refl _ _).alloc (Nat.le_refl _) _), World.alloc_heap_new _ _, k.nextM ((Below.refl _ _).alloc (Nat.le_refl _) _)⟩
theorem movesRes_len (a : Ar.Are) : (Ar.movesRes a).length ≤ 1000000 := by
  unfold Ar.movesRes
  split
  · rename_i h
    have hr := Ar.right_of_check h
    have h8 := hr.ids
    have hl := Ar.ids_len hr (a.ids.length + 1)
    rw [Ar.all_ids hr] at hl
    omega
  · exact Nat.zero_le _
theorem movesN {a : Ar.Are} {A : Option Addr} {c : Nat} {P : Nat → Option Addr × Nat} {W : World} (h : ArM W A P a) : Calls Tryz.prog 20 #[.agg #[.slice A a.ids.length c, .bool a.root.cell, .int .i64 a.root.n, .bool a.jumps]] W fun e w' => ∃ B d, e = .returned (.tuple #[.slice B (Ar.movesRes a).length d, .int .i64 (Ar.checkOf a : Int)]) ∧ Mvs w' w'.heap.size B (Ar.movesRes a) ∧ Below W.heap.size W w' :=
  (moves_any a A c P W h).mono fun e w' ⟨v, h1, h2, h3⟩ => by
    obtain ⟨B, d, rfl⟩ := own_form h2
    exact ⟨B, d, h1, mvs_of_own h2, h3⟩
set_option maxRecDepth 100000 in
set_option maxHeartbeats 4000000 in
theorem refMovesN {a : Ar.Are} {A : Option Addr} {c : Nat} {P : Nat → Option Addr × Nat} {w : World} (hA : ArM w A P a) : Calls Tryz.prog 22 #[.agg #[.slice A a.ids.length c, .bool a.root.cell, .int .i64 a.root.n, .bool a.jumps]] w fun e w' => ∃ B d, e = .returned (.tuple #[.slice B (Ar.movesRes a).length d, .int .i64 (Ar.checkOf a : Int)]) ∧ Mvs w' w'.heap.size B (Ar.movesRes a) ∧ Below w.heap.size w w' := by
  have HF := Lib.hid (OA.first w a A c)
  obtain ⟨e0, e1, e2, e3, -, -, -, -⟩ := cells4 HF.out.arg
  have HC := Lib.hid (fun W (hB : Below w.heap.size w W) => refCheckL (c := c) (hA.below hB))
  unfold Ar.movesRes
  by_cases hk : Ar.checkOf a = 0
  · have HAL := Lib.hid (fun W (hB : Below w.heap.size w W) => refAllL (c := c) (hA.below hB) (Ar.right_of_check hk))
    rw [if_pos hk]
    rw [hk] at HC ⊢
    clear hA hk
    generalize Ar.allOf a = AL at *
    go_enter Tryz.func22, Tryz.ntmps22
    go_wp2_with (first
      | (go_at_call 63; refine (HAL.out _ hF2.below).mono ?_; rintro e w3 ⟨B, d, rfl, hm3, hB3⟩; have hF3 := hF2.next hB3)
      | (go_at_call 24; refine (HC.out _ HF.out.below).mono ?_; rintro e w2 ⟨rfl, hB2⟩; have hF2 := HF.out.next hB2; obtain ⟨x0, x1, x2, x3, -, -, -, -⟩ := cells4 hF2.arg))
    exact bodyPost_ret (v := .tuple #[.slice B AL.length d, .int .i64 0]) (by simp [results, Tryz.results22, go_sem]) rfl ⟨B, d, rfl, hm3, hF3.below⟩
  · rw [if_neg hk]
    have hne : ((Ar.checkOf a : Int) != 0) = true := by rw [bne_iff_ne]; omega
    clear hA hk
    generalize Ar.checkOf a = er at *
    go_enter Tryz.func22, Tryz.ntmps22
    go_wp2_with (go_at_call 24; refine (HC.out _ HF.out.below).mono ?_; rintro e w2 ⟨rfl, hB2⟩; have hF2 := HF.out.next hB2)
    exact bodyPost_ret (v := .tuple #[.slice none 0 0, .int .i64 (er : Int)]) (by simp [results, Tryz.results22, go_sem]) rfl ⟨none, 0, rfl, fun h => absurd rfl h, hF2.below⟩

set_option maxRecDepth 100000 in
set_option maxHeartbeats 8000000 in
theorem law_checks (a : Ar.Are) (A : Option Addr) (c : Nat) (P : Nat → Option Addr × Nat) (w : World) (hM : AreM w A c P a) (hV : GV w) (hG : GT w) :
    Calls Tryz.prog 3 #[arV A c a] w fun e w' => e = .returned (.bool true) ∧ Below w.heap.size w w' := by
  have hav : arV A c a = .agg #[.slice A a.ids.length c, .bool a.root.cell, .int .i64 a.root.n, .bool a.jumps] := rfl
  rw [hav]
  have HF := Lib.hid (OA.first w a A c)
  obtain ⟨e0, e1, e2, e3, -, -, -, -⟩ := cells4 HF.out.arg
  have HA := Lib.hid (fun W (hB : Below w.heap.size w W) => awake_any W (hV.below hB) (hG.below hB))
  have HT := Lib.hid (thinL (hM.below HF.out.below))
  cases ht : Ar.thinOf a
  · rw [ht] at HT
    clear ht hM hV hG hav
    go_enter Tryz.func3, Tryz.ntmps3
    go_wp2_with (first
      | (go_at_call 17; refine (HA.out _ hF2.below).mono ?_; rintro e w6 ⟨rfl, hB6⟩)
      | (go_at_call 16; refine HT.out.mono ?_; rintro e w2 ⟨rfl, hB2⟩; have hF2 := HF.out.next hB2))
    go_ret
    exact ⟨rfl, hF2.below.trans (hB6.mono hF2.below.size)⟩
  · rw [ht] at HT
    have HCP := Lib.hid (fun W (hB : Below w.heap.size w W) => copyL (hM.below hB) ht)
    have HCK := Lib.hid (fun (W : World) (B : Option Addr) (d : Nat) (Q : Nat → Option Addr × Nat) (h : ArM W B Q a) => show Calls Tryz.prog 19 #[.agg #[.slice B a.ids.length d, .bool a.root.cell, .int .i64 a.root.n, .bool a.jumps]] W fun e w' => e = .returned (.int .i64 (Ar.checkOf a : Int)) ∧ Below W.heap.size W w' from check_any a B d Q W h)
    have HMV := Lib.hid (fun (W : World) (B : Option Addr) (d : Nat) (Q : Nat → Option Addr × Nat) (h : ArM W B Q a) => movesN (c := d) h)
    have HSH := Lib.hid (fun (W : World) (B : Option Addr) (d : Nat) (Q : Nat → Option Addr × Nat) (h : ArM W B Q a) (hB : Below w.heap.size w W) => show Calls Tryz.prog 21 #[.agg #[.slice B a.ids.length d, .bool a.root.cell, .int .i64 a.root.n, .bool a.jumps]] W fun e w' => e = .returned (.tuple #[.string (Ar.showRes a).1, .int .i64 ((Ar.showRes a).2 : Int)]) ∧ Below W.heap.size W w' from show_any a B d Q W h (hG.below hB))
    have HRM := Lib.hid (fun W (hB : Below w.heap.size w W) => refMovesN (c := c) ((hM.below hB).m ht))
    have HRS := Lib.hid (fun W (hB : Below w.heap.size w W) => refShow_any a A c P W ((hM.below hB).m ht))
    have HRC := Lib.hid (fun W (hB : Below w.heap.size w W) => refCheckL (c := c) ((hM.below hB).m ht))
    have HSM := Lib.hid (fun (W : World) (B : Option Addr) (d : Nat) (Q : Nat → Option Addr × Nat) (h : ArM W B Q a) (hB : Below w.heap.size w W) => sameL (c := c) (d := d) ((hM.below hB).m ht) h)
    have hml := movesRes_len a
    clear ht hM hV hG hav
    generalize Ar.movesRes a = ML at *
    generalize Ar.checkOf a = E at *
    generalize (Ar.showRes a).1 = S1 at *
    generalize (Ar.showRes a).2 = S2 at *
    have HSW := Lib.hid (fun (B B' : Option Addr) (d d' : Nat) (W : World) (h : Mvs W W.heap.size B ML) (h' : Mvs W W.heap.size B' ML) => sameWord_any ML B B' d d' W hml h h')
    go_enter Tryz.func3, Tryz.ntmps3
    go_wp2_with (first
      | (go_at_call 17; refine (HA.out _ hc11.oa.below).mono ?_; rintro e wa ⟨rfl, hBa⟩)
      | (go_at_call 26; have _t := hB10; refine (HSM.out _ _ _ _ hc10.am hc10.oa.below).mono ?_; rintro e w11 ⟨rfl, hB11⟩; have hc11 := hc10.next hB11)
      | (go_at_call 25; have _t := hB9; refine (HSW.out _ _ _ _ _ ((((hm5.next hB6).next hB7).next hB8).next hB9) ((hm7.next hB8).next hB9)).mono ?_; rintro e w10 ⟨rfl, hB10⟩; have hc10 := hc9.next hB10; obtain ⟨i0, i1, i2, i3, -, -, -, -⟩ := cells4 hc10.oa.arg; obtain ⟨k0, k1, k2, k3, -, -, -, -⟩ := cells4 hc10.blk)
      | (go_at_call 24; have _t := hB8; refine (HRC.out _ hc8.oa.below).mono ?_; rintro e w9 ⟨rfl, hB9⟩; have hc9 := hc8.next hB9)
      | (go_at_call 23; have _t := hB7; refine (HRS.out _ hc7.oa.below).mono ?_; rintro e w8 ⟨rfl, hB8⟩; have hc8 := hc7.next hB8; obtain ⟨h0, h1, h2, h3, -, -, -, -⟩ := cells4 hc8.oa.arg)
      | (go_at_call 22; have _t := hB6; refine (HRM.out _ hc6.oa.below).mono ?_; rintro e w7 ⟨B7, d7, rfl, hm7, hB7⟩; have hc7 := hc6.next hB7; obtain ⟨g0, g1, g2, g3, -, -, -, -⟩ := cells4 hc7.oa.arg)
      | (go_at_call 21; have _t := hB5; refine (HSH.out _ _ _ _ hc5.am hc5.oa.below).mono ?_; rintro e w6 ⟨rfl, hB6⟩; have hc6 := hc5.next hB6; obtain ⟨f0, f1, f2, f3, -, -, -, -⟩ := cells4 hc6.oa.arg)
      | (go_at_call 20; have _t := hB4; refine (HMV.out _ _ _ _ hc4.am).mono ?_; rintro e w5 ⟨B5, d5, rfl, hm5, hB5⟩; have hc5 := hc4.next hB5; obtain ⟨z0, z1, z2, z3, -, -, -, -⟩ := cells4 hc5.blk)
      | (go_at_call 19; have _t := hB3; refine (HCK.out _ _ _ _ (C2.first (d := cb) hF3 hMb).am).mono ?_; rintro e w4 ⟨rfl, hB4⟩; have hc4 := (C2.first (d := cb) hF3 hMb).next hB4; obtain ⟨y0, y1, y2, y3, -, -, -, -⟩ := cells4 hc4.blk)
      | (go_at_call 18; have _t := hB2; refine (HCP.out _ hF2.below).mono ?_; rintro e w3 ⟨Ab, cb, Pb, rfl, hMb, hB3⟩; have hF3 := hF2.next hB3; obtain ⟨b0, b1, b2, b3, -, -, -, -⟩ := cells4 (C2.first (d := cb) hF3 hMb).blk)
      | (go_at_call 16; refine HT.out.mono ?_; rintro e w2 ⟨rfl, hB2⟩; have hF2 := HF.out.next hB2; obtain ⟨x0, x1, x2, x3, -, -, -, -⟩ := cells4 hF2.arg))
    go_ret
    exact ⟨rfl, hc11.oa.below.trans (hBa.mono hc11.oa.below.size)⟩
end Go.Proofs.YtbfpgjnagpcbeaaGreatDoor
