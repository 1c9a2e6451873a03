/-
  WALKS: the example's arena.
-/
import Derived.Test.YtepdlghobopdbaaGreatDoorBn
namespace Go.Proofs.YtepdlghobopdbaaGreatDoor
open Go.RowKit Go.MapKept Go.Shelf

def exA : Ar.Are := ⟨[⟨[⟨false, 3⟩, ⟨true, 2⟩], ⟨false, 1⟩⟩, ⟨[], ⟨true, 2⟩⟩], ⟨false, 2⟩, false⟩
def exP (N : Nat) : Nat → Option Addr × Nat := fun i => if i = 0 then (some ⟨N + 1, 0, none⟩, 2) else (none, 0)
theorem three_newX (W : World) (o0 o1 o2 : Obj) : (((W.alloc o0).alloc o1).alloc o2).heap[W.heap.size]? = some o0 ∧ (((W.alloc o0).alloc o1).alloc o2).heap[W.heap.size + 1]? = some o1 ∧ (((W.alloc o0).alloc o1).alloc o2).heap[W.heap.size + 1 + 1]? = some o2 := by
  have e1 : ((W.alloc o0).alloc o1).heap.size = W.heap.size + 1 + 1 := by rw [size_alloc, size_alloc]
  refine ⟨(Below.heap_alloc _ _ _ (by omega)).trans (two_new1 W o0 o1), (Below.heap_alloc _ _ _ (by omega)).trans (two_new2 W o0 o1), ?_⟩
  have := World.alloc_heap_new ((W.alloc o0).alloc o1) o2
  rw [e1] at this
  exact this
theorem ex_mem (W : World) (N : Nat) (hN : N + 2 < W.heap.size) (h1 : W.heap[N + 1]? = some (.cells #[.bool false, .int .i64 3, .bool true, .int .i64 2] 25 (0, 0))) (h2 : W.heap[N + 1 + 1]? = some (.cells #[.slice (some ⟨N + 1, 0, none⟩) 2 2, .bool false, .int .i64 1, .slice none 0 0, .bool true, .int .i64 2] 53 (0, 0))) : ArM W (some ⟨N + 1 + 1, 0, none⟩) (exP N) exA := by
  have c2 : ∀ j : Nat, W.cell? ⟨N + 1 + 1, j, none⟩ = (#[Value.slice (some ⟨N + 1, 0, none⟩) 2 2, .bool false, .int .i64 1, .slice none 0 0, .bool true, .int .i64 2] : Array Value)[j]? := fun j => by simp [World.cell?, h2]
  have c1 : ∀ j : Nat, W.cell? ⟨N + 1, j, none⟩ = (#[Value.bool false, .int .i64 3, .bool true, .int .i64 2] : Array Value)[j]? := fun j => by simp [World.cell?, h1]
  refine ⟨by decide, by decide, fun _ => ⟨N + 1 + 1, 0, rfl, by omega, fun i t ht => ?_⟩⟩
  match i, ht with
  | 0, ht =>
    simp [exA] at ht; subst ht
    refine ⟨c2 0, c2 1, c2 2, fun _ => ⟨N + 1, 0, rfl, by omega, fun j b hb => ?_⟩⟩
    match j, hb with
    | 0, hb => simp at hb; subst hb; exact ⟨c1 0, c1 1⟩
    | 1, hb => simp at hb; subst hb; exact ⟨c1 2, c1 3⟩
    | j + 2, hb => simp at hb
  | 1, ht =>
    simp [exA] at ht; subst ht
    exact ⟨c2 3, c2 4, c2 5, fun h => absurd rfl h⟩
  | i + 2, ht => simp [exA] at ht
set_option maxRecDepth 100000 in
set_option maxHeartbeats 4000000 in
theorem example_any (w : World) : Calls Tryz.prog 10 #[] w fun e w' => ∃ A c P, e = .returned (arV A c exA) ∧ ArM w' A P exA ∧ Below w.heap.size w w' := by
  go_enter Tryz.func10, Tryz.ntmps10
  go_wp2
  obtain ⟨k0, k1, k2⟩ := three_newX w (.cells #[.slice (some ⟨w.heap.size + 1 + 1, 0, none⟩) 2 2, .bool false, .int .i64 2, .bool false] 27 (0, 0)) (.cells #[.bool false, .int .i64 3, .bool true, .int .i64 2] 25 (0, 0)) (.cells #[.slice (some ⟨w.heap.size + 1, 0, none⟩) 2 2, .bool false, .int .i64 1, .slice none 0 0, .bool true, .int .i64 2] 53 (0, 0))
  obtain ⟨r0, r1, r2, r3, -, -, -, -⟩ := cells4 k0
  refine bodyPost_ret (v := .agg #[.slice (some ⟨w.heap.size + 1 + 1, 0, none⟩) 2 2, .bool false, .int .i64 2, .bool false]) (by simp [results, Tryz.results10, go_sem, r0, r1, r2, r3]) rfl ⟨_, _, _, rfl, ex_mem _ w.heap.size (by rw [size_alloc, size_alloc, size_alloc]; omega) k1 k2, ?_⟩
  exact (below_two _ _).alloc (by rw [size_alloc, size_alloc]; omega) _
end Go.Proofs.YtepdlghobopdbaaGreatDoor
