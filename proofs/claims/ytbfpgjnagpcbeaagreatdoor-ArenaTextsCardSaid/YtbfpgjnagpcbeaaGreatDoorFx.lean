/-
  WALKS: ArenaTexts.
-/
import Derived.Test.YtbfpgjnagpcbeaaGreatDoorFw
import Derived.Test.YtbfpgjnagpcbeaaGreatDoorAt
import Derived.Test.YtbfpgjnagpcbeaaGreatDoorBs
import Derived.Test.YtbfpgjnagpcbeaaGreatDoorCa
namespace Go.Proofs.YtbfpgjnagpcbeaaGreatDoor
open Go.RowKit Go.MapKept Go.Shelf

/-- What the call's first block holds: a move. -/
structure MA (w : World) (m : Ar.Mv) (W : World) : Prop where
  below : Below w.heap.size w W
  mv : W.heap[w.heap.size]? = some (.cells #[.int .i64 m.id, .int .i64 m.arg, .int .u8 m.kind, .int .i64 m.n] 40 (0, 0))
theorem MA.next {w : World} {m : Ar.Mv} {W W' : World} (h : MA w m W) (hB : Below W.heap.size W W') : MA w m W' :=
  ⟨h.below.trans (hB.mono h.below.size), (hB.block _ (lt_of_heap h.mv)).trans h.mv⟩
theorem MA.first (w : World) (m : Ar.Mv) : MA w m (w.alloc (.cells #[.int .i64 m.id, .int .i64 m.arg, .int .u8 m.kind, .int .i64 m.n] 40 (0, 0))) :=
  ⟨(Below.refl _ _).alloc (Nat.le_refl _) _, World.alloc_heap_new _ _⟩
/-- A move in a block of the call's own. -/
def MB (b : Nat) (m : Ar.Mv) (W : World) : Prop := W.heap[b]? = some (.cells #[.int .i64 m.id, .int .i64 m.arg, .int .u8 m.kind, .int .i64 m.n] 40 (0, 0))
theorem MB.next {b : Nat} {m : Ar.Mv} {W W' : World} (h : MB b m W) (hB : Below W.heap.size W W') : MB b m W' := (hB.block _ (lt_of_heap h)).trans h
theorem MB.first (W : World) (m : Ar.Mv) : MB W.heap.size m (W.alloc (.cells #[.int .i64 m.id, .int .i64 m.arg, .int .u8 m.kind, .int .i64 m.n] 40 (0, 0))) := World.alloc_heap_new _ _
theorem below_mv (W : World) (m : Ar.Mv) : Below W.heap.size W (W.alloc (.cells #[.int .i64 m.id, .int .i64 m.arg, .int .u8 m.kind, .int .i64 m.n] 40 (0, 0))) := (Below.refl _ _).alloc (Nat.le_refl _) _

set_option maxRecDepth 100000 in
set_option maxHeartbeats 8000000 in
theorem law_texts (m : Ar.Mv) (hm : MvOk m) (s : ByteArray) (w : World) (hV : GV w) (hG : GT w) :
    Calls Tryz.prog 7 #[.agg #[.int .i64 m.id, .int .i64 m.arg, .int .u8 m.kind, .int .i64 m.n], .string s] w fun e w' => e = .returned (.bool true) ∧ Below w.heap.size w w' := by
  have HF := Lib.hid (MA.first w m)
  obtain ⟨e0, e1, e2, e3, -, -, -, -⟩ := cells4 HF.out.mv
  have HA := Lib.hid (fun W (hB : Below w.heap.size w W) => awake_any W (hV.below hB) (hG.below hB))
  by_cases h200 : 200 < s.size
  · have hgt : (200 : Int) < (s.size : Int) := by omega
    clear hV hG h200 hm
    go_enter Tryz.func7, Tryz.ntmps7
    go_wp2_with (go_at_call 17; refine (HA.out _ HF.out.below).mono ?_; rintro e w6 ⟨rfl, hB6⟩)
    go_ret
    exact ⟨rfl, HF.out.below.trans (hB6.mono HF.out.below.size)⟩
  · have hgt : ¬ ((200 : Int) < (s.size : Int)) := by omega
    have hs : s.size ≤ 281474976710656 := by omega
    have HT := Lib.hid (fun W (hB : Below w.heap.size w W) => show Calls Tryz.prog 41 #[.agg #[.int .i64 m.id, .int .i64 m.arg, .int .u8 m.kind, .int .i64 m.n]] W fun e w' => e = .returned (.tuple #[.string (Ar.textRes m).1, .int .i64 ((Ar.textRes m).2 : Int)]) ∧ Below W.heap.size W w' from text_any m W (hG.below hB) hm)
    have HRT := Lib.hid (fun W => refText_any m hm W)
    have HP := Lib.hid (fun W (hB : Below w.heap.size w W) => (parse_any s hs W (hV.below hB) (hG.below hB)).mono fun (e : Ending) (w' : World) h12 => (show e = .returned (.tuple #[.agg #[.int .i64 (Ar.parseRes s).1.id, .int .i64 (Ar.parseRes s).1.arg, .int .u8 (Ar.parseRes s).1.kind, .int .i64 (Ar.parseRes s).1.n], .int .i64 ((Ar.parseRes s).2 : Int)]) ∧ Below W.heap.size W w' from ⟨parse_res h12.1, h12.2⟩))
    have HRP := Lib.hid (fun W => refParse_any s hs W)
    have qe := fun W => run_eql_mv W (Ar.parseRes s).1 (Ar.parseRes s).1
    rw [show mvEq (Ar.parseRes s).1 (Ar.parseRes s).1 = true by rw [mvEq_iff]; exact decide_eq_true rfl] at qe
    have qg : ∀ (x y : Operand) (xs ys : Array Value) (w : World), (eqGuard .eql 40 x y (.agg xs) (.agg ys)).run Tryz.prog w = .ok () w := fun x y xs ys w => run_eqGuard_agg w _ _ x y xs ys (by kernel_rfl)
    clear hV hG h200 hm hs
    generalize (Ar.textRes m).1 = S1 at *
    generalize (Ar.textRes m).2 = S2 at *
    generalize (Ar.parseRes s).1 = M at *
    generalize (Ar.parseRes s).2 = E at *
    go_enter Tryz.func7, Tryz.ntmps7
    go_wp2_with (first
      | (go_at_call 17; refine (HA.out _ hFz.below).mono ?_; rintro e wa ⟨rfl, hBa⟩)
      | (go_at_call 44; have _t := hB4; refine (HRP.out _).mono ?_; rintro e w5 ⟨rfl, hB5⟩; have hF5 := hF4.next hB5; have hFz := hF5.next (below_mv w5 M); have hm5 := (hm4.next hB5).next (below_mv w5 M); have hn5 := MB.first w5 M; obtain ⟨y0, y1, y2, y3, -, -, -, -⟩ := cells4 hm5; obtain ⟨z0, z1, z2, z3, -, -, -, -⟩ := cells4 hn5)
      | (go_at_call 43; have _t := hB3; refine (HRT.out _).mono ?_; rintro e w4 ⟨rfl, hB4⟩; have hF4 := hFy.next hB4; have hm4 := hm3.next hB4)
      | (go_at_call 42; have _t := hB2; refine (HP.out _ hF2.below).mono ?_; rintro e w3 ⟨rfl, hB3⟩; have hF3 := hF2.next hB3; have hFy := hF3.next (below_mv w3 M); have hm3 := MB.first w3 M; obtain ⟨x0, x1, x2, x3, -, -, -, -⟩ := cells4 hFy.mv)
      | (go_at_call 41; refine (HT.out _ HF.out.below).mono ?_; rintro e w2 ⟨rfl, hB2⟩; have hF2 := HF.out.next hB2))
    go_ret
    exact ⟨rfl, hFz.below.trans (hBa.mono hFz.below.size)⟩
end Go.Proofs.YtbfpgjnagpcbeaaGreatDoor
