/-
  WALKS: lists of moves: one more; what is yielded of some places.
-/
import Derived.Test.YtepdlghobopdbaaGreatDoorAl
import Derived.Maps.OwnIn
namespace Go.Proofs.YtepdlghobopdbaaGreatDoor
open Go.RowKit Go.Shelf
attribute [local go_sem] Oper.semAt_some

def mvCells (m : Ar.Mv) : List Value := [.int .i64 m.id, .int .i64 m.arg, .int .u8 m.kind, .int .i64 m.n]
def mvsCells (l : List Ar.Mv) : List Value := l.flatMap mvCells
theorem mvsCells_snoc (l : List Ar.Mv) (x : Ar.Mv) : mvsCells (l ++ [x]) = mvsCells l ++ mvCells x := by simp [mvsCells]
theorem infoMv : (Tryz.prog.info? 37).map (fun i => (i.zero, i.size, i.bytes)) = some (some (.agg #[.int .i64 0, .int .i64 0, .int .u8 0, .int .i64 0]), 4, 32) := by kernel_rfl
theorem cell_four_new (W : World) (a b c d : Value) (t : TypeId) : ∀ j u, [a, b, c, d][j]? = some u → (W.alloc (.cells #[a, b, c, d] t)).cell? ((⟨W.heap.size, 0, none⟩ : Addr).add j) = some u := by
  intro j u hu
  have h : (⟨W.heap.size, 0, none⟩ : Addr).add j = ⟨W.heap.size, j, none⟩ := by unfold Addr.add; split <;> simp_all
  rw [h, (World.cell?_of_block rfl : (W.alloc (.cells #[a, b, c, d] t)).cell? ⟨W.heap.size, j, none⟩ = _)]
  unfold World.cell?
  rw [World.alloc_heap_new]
  simpa using hu
theorem cell_four_at (W : World) (N : Nat) (hN : N = W.heap.size) (a b c d : Value) (t : TypeId) : ∀ j u, [a, b, c, d][j]? = some u → (W.alloc (.cells #[a, b, c, d] t)).cell? ((⟨N, 0, none⟩ : Addr).add j) = some u := by
  subst hN; exact cell_four_new W a b c d t
theorem own_form {w : World} {base : Nat} {e : TypeId} {size : Nat} {v : Value} {n : Nat} {xs : List Value} (h : w.ownsRow base e size v n xs) : ∃ ao c, v = .slice ao n c := by
  rcases h.2 with ⟨rfl, rfl⟩ | ⟨g, cap, cur, rfl, _⟩
  · exact ⟨_, _, rfl⟩
  · exact ⟨_, _, rfl⟩
theorem own_ext {A B : World} {n₀ base : Nat} {e : TypeId} {size : Nat} {v : Value} {n : Nat} {xs : List Value} (h : A.ownsRow base e size v n xs) (k : Ext n₀ A B) : B.ownsRow base e size v n xs := by
  refine ⟨h.1, ?_⟩
  rcases h.2 with hn | ⟨g, cap, cur, hv, hb, hg, rest⟩
  · exact .inl hn
  · exact .inr ⟨g, cap, cur, hv, hb, k.cells _ _ hg rfl, rest⟩

/-- The box Bl holds a list of moves that lies in memory of our own. -/
def Row (n₀ Bl : Nat) (ms : List Ar.Mv) (W : World) : Prop := ∃ v, Boxed W Bl 38 v ∧ W.ownsRow n₀ 37 4 v ms.length (mvsCells ms)
theorem lasts_row (n n₀ Bl : Nat) (ms : List Ar.Mv) : Lasts n (Row n₀ Bl ms) := fun _ _ e ⟨v, h1, h2⟩ => ⟨v, Ext.boxed h1 e, own_ext h2 e⟩
theorem lasts_keep {n N : Nat} (A : World) (h : A.heap.size ≤ n) : Lasts n (Keep N A) := fun B C e k => by
  refine ⟨Nat.le_trans k.size e.below.size, fun i o ho hf => ?_⟩
  exact (e.below.block i (by have := lt_of_heap ho; omega)).trans (k.same i o ho hf)
theorem own_slice {v : Value} {k : Nat} (h : v.ownBlock = some k) : ∃ a n c, v = .slice (some a) n c ∧ k = a.block := by
  unfold Value.ownBlock at h
  split at h
  · rename_i a n c; exact ⟨a, n, c, rfl, by simpa using h.symm⟩
  · cases h
theorem own_block_cells {w : World} {base : Nat} {e : TypeId} {size : Nat} {v : Value} {n : Nat} {xs : List Value} (h : w.ownsRow base e size v n xs) {k : Nat} (hk : v.ownBlock = some k) : ∃ cs, w.heap[k]? = some (.cells cs e (0, 0)) := by
  rcases h.2 with ⟨rfl, _⟩ | ⟨g, cap, cur, rfl, _, hg, _⟩
  · cases hk
  · obtain rfl : g = k := by simpa [Value.ownBlock] using hk
    exact ⟨cur, hg⟩
theorem Keep.appended {W w1 : World} {n₀ Bl : Nat} {v v' : Value} {k m : Nat} {xs ys : List Value} {tmp : Obj} (hn : n₀ ≤ W.heap.size) (hB : n₀ ≤ Bl)
    (hv : Boxed W Bl 38 v) (hrow : W.ownsRow n₀ 37 4 v k xs) (hown' : w1.ownsRow n₀ 37 4 v' m ys) (hg : (W.alloc tmp).grownBy w1 v.ownBlock) : Keep 0 W (w1.setCell ⟨Bl, 0, none⟩ v') := by
  obtain ⟨h1, h2, h3, h4, _⟩ := hv.appended (by decide) hrow hn hB hown' hg
  refine ⟨h4.size, fun j o ho hf => ?_⟩
  cases hc : o.isCells
  · exact h4.same j o ho hc
  · have hj := lt_of_heap ho
    have hne : j ≠ Bl := fun e => by
      subst e
      rw [show W.heap[j]? = _ from hv] at ho
      cases ho
      exact hf.2 rfl
    rw [Below.heap_setCell _ _ _ _ hne, hg.block j (by simp; omega) (fun e => by
      obtain ⟨cs, hcs⟩ := own_block_cells hrow e.symm
      rw [hcs] at ho
      cases ho
      exact hf.1 rfl), Below.heap_alloc _ _ _ hj]
    exact ho

set_option maxRecDepth 100000 in
set_option maxHeartbeats 2000000 in
theorem grow_any (n₀ Bl : Nat) (ms : List Ar.Mv) (x : Ar.Mv) (W : World) (h : Row n₀ Bl ms W) (hn : n₀ ≤ W.heap.size) (hB : n₀ ≤ Bl) (hl : ms.length ≤ 1000000) :
    Calls Tryz.prog 78 #[mvV x, .pointer (some ⟨Bl, 0, none⟩)] W fun e W' => e = .returned (.bool true) ∧ Row n₀ Bl (ms ++ [x]) W' ∧ Below n₀ W W' ∧ Keep 0 W W' := by
  obtain ⟨i0, hi, hz0, hz1, hz2⟩ := info_parts infoMv
  obtain ⟨v, hv, hrow⟩ := h
  have hv1 := hv.alloc (mvO x)
  have hr1 := hrow.alloc (mvO x)
  obtain ⟨m0, m1, m2, m3⟩ := mvO_cells (World.alloc_heap_new W (mvO x))
  have hcv := hv1.cell
  obtain ⟨ao, cap, rfl⟩ := own_form hrow
  have HR := Lib.hid hr1
  have hB0 : Below n₀ W (W.alloc (mvO x)) := (Below.refl _ _).alloc hn _
  have hK0 : Keep 0 W (W.alloc (mvO x)) := Keep.below ((Below.refl _ _).alloc (Nat.le_refl _) _)
  have hsz : n₀ ≤ (W.alloc (mvO x)).heap.size := Nat.le_trans hn hB0.size
  clear hv hrow hr1
  unfold mvV
  unfold mvO at *
  go_enter Tryz.func78, Tryz.ntmps78
  go_wp2_with (at_builtin; go_loud (refine wpList_append_own_at _ rfl _ _ 38 rfl n₀ 37 i0 (.agg #[.int .i64 0, .int .i64 0, .int .u8 0, .int .i64 0]) 4 32 Tryz.underlying38 hi hz0 hz1 hz2 rfl (by decide) _ _ _ rfl (HR.out.alloc _) ⟨W.heap.size + 1, 0, none⟩ 1 1 (mvCells x) rfl rfl (cell_four_at _ _ (by simp) _ _ _ _ _) (by simp [mvCells, Value.oneCell']) (by unfold maxLen; omega) (by omega) (by simp; omega) ?_); intro v' w1 hown' hgrow _ _; obtain ⟨g', cap', rfl⟩ := ownsRow_succ hown'; obtain ⟨hv2, hv3, hr3, hk3, hb3⟩ := hv1.appended (by decide) HR.out hsz hB hown' hgrow; have hkp := Keep.appended hsz hB hv1 HR.out hown' hgrow; have hc1 := hv2.cell; have hf1 := hv2.frozen)
  go_ret
  exact ⟨rfl, ⟨_, hv3, by rw [mvsCells_snoc, List.length_append]; exact hr3⟩, hB0.trans hb3, hK0.trans hkp⟩
end Go.Proofs.YtepdlghobopdbaaGreatDoor
