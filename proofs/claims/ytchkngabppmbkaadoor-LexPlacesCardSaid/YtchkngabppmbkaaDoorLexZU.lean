/-
  WALKS: the iterator over places, with their lines and columns.
-/
import Derived.RangeFuncNested
import Derived.RangeFuncBound
import Derived.RangeFuncCalls
import Derived.RangeFuncLeaves
import Derived.Shelf.Abstract
import Derived.Shelf.RegionOpen
import Derived.WalkKit
import Derived.OwnWalkIn
import Derived.TacticsInMore
import Derived.LoopNIn
import Derived.LoopIn
import Derived.Maps.AppendAt
import Derived.Test.YtchkngabppmbkaaDoorLexH
import Derived.Test.YtchkngabppmbkaaDoorSpecS
import Derived.Test.YtchkngabppmbkaaDoorSpecY
namespace Go.Proofs.YtchkngabppmbkaaDoor
open Go.RowKit Go.Shelf
attribute [local go_sem] Oper.semAt_some

def spotV (p : Nat × Nat) : Value := .agg #[.int .i64 (p.1 : Int), .int .i64 (p.2 : Int)]
def spotO (p : Nat × Nat) : Obj := .cells #[.int .i64 (p.1 : Int), .int .i64 (p.2 : Int)] 32 (0, 0)
def encSpot (s : ByteArray) (k : Nat) : Array Value := #[.int .i64 (k : Int), .agg #[.int .i64 ((Lx.spotAt s k).1 : Int), .int .i64 ((Lx.spotAt s k).2 : Int)]]
theorem pair_set {W : World} {b j : Nat} {u v x : Value} {t : TypeId} (h : W.heap[b]? = some (.cells #[u, v] t (0, 0))) : (W.setCell ⟨b, j, none⟩ x).heap[b]? = some (.cells (#[u, v].setIfInBounds j x) t (0, 0)) := by
  obtain ⟨hlt, hk⟩ := Array.getElem?_eq_some_iff.1 h
  show (W.heap.modify b _)[b]? = _
  rw [Array.getElem?_eq_getElem (by rw [Array.size_modify]; exact hlt), Array.getElem_modify_self, hk]
  rfl
theorem pair_set0 {W : World} {b : Nat} {u v x : Value} {t : TypeId} (h : W.heap[b]? = some (.cells #[u, v] t (0, 0))) : (W.setCell ⟨b, 0, none⟩ x).heap[b]? = some (.cells #[x, v] t (0, 0)) := pair_set h
theorem pair_set1 {W : World} {b : Nat} {u v x : Value} {t : TypeId} (h : W.heap[b]? = some (.cells #[u, v] t (0, 0))) : (W.setCell ⟨b, 1, none⟩ x).heap[b]? = some (.cells #[u, x] t (0, 0)) := pair_set h

set_option maxRecDepth 100000 in
set_option maxHeartbeats 4000000 in
theorem spots1 (n : Nat) (hn : 1 ≤ n) (l Bs : Nat) (s : ByteArray) (hs : s.size ≤ 281474976710656) (J Jx : Nat → World → Prop) (W : World) (hJ : Stay W.heap.size J)
    (hY : ∀ k W1, k ≤ s.size → J k W1 → YieldAt Fence.wide (n - 1) Tryd.prog l (encSpot s k) W1 fun e W' => (e = .returned (.bool true) ∧ J (k + 1) W' ∧ Ks W1 W') ∨ (e = .returned (.bool false) ∧ Jx k W'))
    (hBs : Boxed W Bs 9 (.string s)) (h0 : J 0 W) :
    CallsIn Fence.wide n Tryd.prog 86 #[.func (.yield l) #[] #[], .pointer (some ⟨Bs, 0, none⟩)] W fun e W' => (∃ v, e = .returned v) ∧ (J (s.size + 1) W' ∨ ∃ k, k ≤ s.size ∧ Jx k W') := by
  refine callsIn_of_wp Tryd.func86 rfl trivial ?_ rfl
  simp only [Tryd.ntmps86, List.size_toArray, List.length_cons, List.length_nil, Nat.reduceAdd, Nat.reduceSub, Array.replicate_succ, Array.replicate_zero, List.push_toArray, List.append_toArray, List.nil_append, List.cons_append]
  have HY := Lib.hid hY; clear hY
  have hlt0 := hBs.lt
  have hb1 : Boxed (W.alloc (.cells #[.int .i64 1, .int .i64 1] 32)) Bs 9 (.string s) := hBs.alloc _
  have hp1 : (W.alloc (.cells #[.int .i64 1, .int .i64 1] 32)).heap[W.heap.size]? = some (spotO (Lx.spotAt s 0)) := World.alloc_heap_new _ _
  have hj1 : J 0 (W.alloc (.cells #[.int .i64 1, .int .i64 1] 32)) := hJ.lay _ _ _ h0
  have HJ := Lib.hid hJ; clear hJ
  have hc1 := hb1.cell
  gi_wp2
  generalize W.alloc (.cells #[.int .i64 1, .int .i64 1] 32) = W1 at *
  have hj1 := Lib.hid hj1
  clear h0 hBs hc1
  gi_loopw [8] (fun i wr => ∃ (k : Nat), k ≤ s.size ∧ i = .int .i64 k ∧ Hid (J k wr) ∧ Hid (Boxed wr Bs 9 (.string s)) ∧ Hid (wr.heap[W.heap.size]? = some (spotO (Lx.spotAt s k)))) (fun i _ => s.size - (intOf i).toNat)
  case atStart => exact ⟨0, Nat.zero_le _, rfl, hj1.out, hb1, hp1⟩
  case round =>
    obtain ⟨k, hk, rfl, hjr, hbr, hpr⟩ := hrel
    clear hj1 hb1 hp1
    have hcs := hbr.out.cell
    have p0 : wr.cell? ⟨W.heap.size, 0, none⟩ = some (.int .i64 ((Lx.spotAt s k).1 : Int)) := by simp [World.cell?, hpr.out, spotO]
    have p1 : wr.cell? ⟨W.heap.size, 1, none⟩ = some (.int .i64 ((Lx.spotAt s k).2 : Int)) := by simp [World.cell?, hpr.out, spotO]
    obtain ⟨fn, tmps, assign, body, hy, hR⟩ := HY.out k wr hk hjr.out
    dsimp only [encSpot] at hy
    have HR := Lib.hid hR; clear hR
    have hle := Lx.spotAt_le s k
    by_cases hlt : k < s.size
    · have hd : decide ((k : Int) < (s.size : Int)) = true := decide_eq_true (by omega)
      have hst : Lx.spotAt s (k + 1) = if Lx.byteAt s k = 10 then ((Lx.spotAt s k).1 + 1, 1) else ((Lx.spotAt s k).1, (Lx.spotAt s k).2 + 1) := rfl
      have HST := Lib.hid hst; clear hst
      have hbyte := Lx.byteAt_eq s k hlt
      have HBY := Lib.hid hbyte; clear hbyte
      generalize hln : (Lx.spotAt s k).1 = ln at *
      generalize hcl : (Lx.spotAt s k).2 = cl at *
      have HPR : Hid (wr.heap[W.heap.size]? = some (.cells #[.int .i64 (ln : Int), .int .i64 (cl : Int)] 32 (0, 0))) := by have := hpr.out; rw [spotO, hln, hcl] at this; exact this
      clear hln hcl hpr
      gi_wp2
      refine HR.out.mono ?_
      rintro e W3 (⟨rfl, hJ3, hk3⟩ | ⟨rfl, hJx3⟩)
      · have b3 := Ks.boxed hbr.out hk3
        have t3 := hk3.2 _ _ HPR.out rfl
        have c3 := b3.cell
        have q0 : W3.cell? ⟨W.heap.size, 0, none⟩ = some (.int .i64 (ln : Int)) := by simp [World.cell?, t3]
        have q1 : W3.cell? ⟨W.heap.size, 1, none⟩ = some (.int .i64 (cl : Int)) := by simp [World.cell?, t3]
        have f0 : W3.frozen? ⟨W.heap.size, 0, none⟩ = false := by simp [World.frozen?, t3]
        have f1 : W3.frozen? ⟨W.heap.size, 1, none⟩ = false := by simp [World.frozen?, t3]
        have hne : Bs ≠ W.heap.size := by omega
        have u1 := pair_set1 (x := .int .i64 ((cl : Int) + 1)) t3
        have B3 := Lib.hid b3; have T3 := Lib.hid t3; have J3 := Lib.hid hJ3; have U1 := Lib.hid u1
        clear hJ3 hk3 t3 b3 u1
        by_cases h10 : Lx.byteAt s k = 10
        · have hbe : (((s[k].toNat : Nat) : Int) == 10) = true := by rw [← HBY.out, h10]; rfl
          have HS2 : Hid (Lx.spotAt s (k + 1) = (ln + 1, 1)) := by rw [Hid, HST.out, if_pos h10]
          clear h10
          have u2 := pair_set0 (x := .int .i64 ((ln : Int) + 1)) U1.out
          have u3 := pair_set1 (x := .int .i64 1) u2
          have U3 := Lib.hid u3
          clear u2 u3
          gi_wp2
          go_roundw
          case rel =>
            exact ⟨k + 1, by omega, by go_num, HJ.out.turn _ _ _ _ (HJ.out.turn _ _ _ _ (HJ.out.turn _ _ _ _ J3.out)), (Below.heap_setCell _ _ _ _ hne).trans ((Below.heap_setCell _ _ _ _ hne).trans ((Below.heap_setCell _ _ _ _ hne).trans B3.out)), by rw [Hid, HS2.out]; exact U3.out⟩
          case measure => simp [intOf]; omega
        · have hbe : (((s[k].toNat : Nat) : Int) == 10) = false := by
            rw [beq_eq_false_iff_ne]
            intro e
            rw [HBY.out] at h10
            exact h10 (UInt8.toNat_inj.1 (by have h : (10 : UInt8).toNat = 10 := rfl; rw [h]; omega))
          have HS2 : Hid (Lx.spotAt s (k + 1) = (ln, cl + 1)) := by rw [Hid, HST.out, if_neg h10]
          clear h10
          gi_wp2
          go_roundw
          case rel =>
            exact ⟨k + 1, by omega, by go_num, HJ.out.turn _ _ _ _ J3.out, (Below.heap_setCell _ _ _ _ hne).trans B3.out, by rw [Hid, HS2.out]; exact U1.out⟩
          case measure => simp [intOf]; omega
      · gi_wp2
        refine bodyPost_ret (results_none rfl _ _ _) rfl ?_
        exact ⟨⟨_, rfl⟩, .inr ⟨k, hk, hJx3⟩⟩
    · obtain rfl : k = s.size := by omega
      have hd : decide ((s.size : Int) < (s.size : Int)) = false := decide_eq_false (by omega)
      gi_wp2
      refine HR.out.mono ?_
      rintro e W3 (⟨rfl, hJ3, hk3⟩ | ⟨rfl, hJx3⟩)
      · gi_wp2
        go_end0
        exact ⟨⟨_, rfl⟩, .inl hJ3⟩
      · gi_wp2
        go_end0
        exact ⟨⟨_, rfl⟩, .inr ⟨_, Nat.le_refl _, hJx3⟩⟩
end Go.Proofs.YtchkngabppmbkaaDoor
