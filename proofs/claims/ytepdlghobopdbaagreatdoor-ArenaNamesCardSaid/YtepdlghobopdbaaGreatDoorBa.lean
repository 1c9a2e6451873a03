/-
  WALKS: what becomes of the elements of a list; the arena of what stands for an identifier.
-/
import Derived.Test.YtepdlghobopdbaaGreatDoorAy
import Derived.Deep.RegionWith
namespace Go.Proofs.YtepdlghobopdbaaGreatDoor
open Go.RowKit Go.Shelf

theorem own_low {w : World} {base : Nat} {e : TypeId} {size : Nat} {v : Value} {n : Nat} {xs : List Value} (h : w.ownsRow base e size v n xs) {j : Nat} (hj : v.ownBlock = some j) : base ≤ j := by
  rcases h.2 with ⟨rfl, _⟩ | ⟨g, cap, cur, rfl, hb, _⟩
  · cases hj
  · obtain rfl : g = j := by simpa [Value.ownBlock] using hj
    exact hb
theorem infoTy : (Tryz.prog.info? 53).map (fun i => (i.zero, i.size, i.bytes)) = some (some (.agg #[.slice none 0 0, .bool false, .int .i64 0]), 3, 40) := by kernel_rfl
def aloneCells (b : Ar.Bs) : List Value := [.slice none 0 0, .bool b.cell, .int .i64 b.n]
theorem cell_three_at (W : World) (N : Nat) (hN : N = W.heap.size) (a b c : Value) (t : TypeId) : ∀ j u, [a, b, c][j]? = some u → (W.alloc (.cells #[a, b, c] t)).cell? ((⟨N, 0, none⟩ : Addr).add j) = some u := by
  subst hN
  intro j u hu
  have h : (⟨W.heap.size, 0, none⟩ : Addr).add j = ⟨W.heap.size, j, none⟩ := by unfold Addr.add; split <;> simp_all
  rw [h, (World.cell?_of_block rfl : (W.alloc (.cells #[a, b, c] t)).cell? ⟨W.heap.size, j, none⟩ = _)]
  unfold World.cell?
  rw [World.alloc_heap_new]
  simpa using hu
set_option maxRecDepth 100000 in
set_option maxHeartbeats 1000000 in
theorem inner1_any (b : Ar.Bs) (w : World) : Calls Tryz.prog 46 #[.agg #[.bool b.cell, .int .i64 b.n]] w fun e w' => e = .returned (.agg #[.slice none 0 0, .bool b.cell, .int .i64 b.n]) ∧ Below w.heap.size w w' := by
  go_enter Tryz.func46, Tryz.ntmps46
  go_wp2
  refine bodyPost_ret (v := .agg #[.slice none 0 0, .bool b.cell, .int .i64 b.n]) (by simp [results, Tryz.results46, go_sem]) rfl ⟨rfl, below_two _ _⟩

set_option maxRecDepth 100000 in
set_option maxHeartbeats 4000000 in
theorem each_alone (l : List Ar.Bs) (A : Option Addr) (c : Nat) (w : World) (hT : Bas w w.heap.size A l) (hL : l.length ≤ 1000000) :
    Calls Tryz.prog 47 #[.slice A l.length c, .func (.func 46) #[] #[]] w fun e w' => ∃ v, e = .returned v ∧ w'.ownsRow w.heap.size 53 3 v l.length (l.flatMap aloneCells) ∧ Below w.heap.size w w' := by
  obtain ⟨i0, hi, hz0, hz1, hz2⟩ := info_parts infoTy
  have HT := Lib.hid hT
  have HP := Lib.hid (fun (x : Ar.Bs) (k : Nat) => fun (_ : l[k]? = some x) (W : World) (_ : Below w.heap.size w W) => inner1_any x W)
  clear hT
  go_enter Tryz.func47, Tryz.ntmps47
  go_wp2
  go_loopw [5, 10] (fun v i wr => ∃ k : Nat, k ≤ l.length ∧ i = .int .i64 k ∧ Hid (wr.ownsRow w.heap.size 53 3 v k ((l.take k).flatMap aloneCells)) ∧ Below w.heap.size w wr) (fun _ i _ => l.length - (intOf i).toNat)
  case atStart => exact ⟨0, Nat.zero_le _, rfl, World.ownsRow_nil _ _ _ _, Below.refl _ _⟩
  case round =>
    obtain ⟨k, hk, rfl, hrow, hB⟩ := hrel
    by_cases hlt : k < l.length
    · obtain ⟨x, hx⟩ : ∃ x, l[k]? = some x := ⟨_, List.getElem?_eq_getElem hlt⟩
      obtain ⟨b, off, hA, hbB, hc⟩ := (HT.out.below hB) (by intro e; rw [e] at hlt; simp at hlt)
      obtain ⟨c0, c1⟩ := hc k x hx
      have HX := Lib.hid hx
      have hq0 := block_of_cell c0
      clear hx hc
      subst hA
      have hBa := hB.alloc hB.size (.cells #[.bool x.cell, .int .i64 x.n] 25 (0, 0))
      have hb0 := Lib.hid (World.alloc_heap_new wr (.cells #[.bool x.cell, .int .i64 x.n] 25 (0, 0)))
      have hcall := HP.out x k HX.out _ hBa

      obtain ⟨ao, cap, hv⟩ := own_form hrow.out
      subst hv
      have hr1 := own_ext hrow.out (Ext.of_below ((Below.refl wr.heap.size wr).alloc (Nat.le_refl _) (.cells #[.bool x.cell, .int .i64 x.n] 25 (0, 0))) (Nat.le_refl _))
      have HR1 := Lib.hid hr1
      have HC := Lib.hid hcall
      have hsz := hB.size
      clear hr1 hcall hrow
      go_wp2_with (first
        | (at_builtin; go_loud (refine wpList_append_own_at _ rfl _ _ 23 rfl w.heap.size 53 i0 (.agg #[.slice none 0 0, .bool false, .int .i64 0]) 3 40 Tryz.underlying23 hi hz0 hz1 hz2 rfl (by decide) _ _ _ rfl (HR2.out.alloc _) ⟨w2.heap.size, 0, none⟩ 1 1 (aloneCells x) rfl rfl (cell_three_at _ _ (by simp) _ _ _ _) (by simp [aloneCells, Value.oneCell']) (by unfold maxLen; omega) (by omega) (by simp; omega) ?_); intro v' w3 hown' hgrow _ hat; have hBg := (hBw2.alloc hBw2.size (.cells (aloneCells x).toArray 53)).grown hgrow (by simp; omega) (fun j e => own_low HR2.out e))
        | (go_at_call 46; refine HC.out.mono ?_; rintro e w2 ⟨rfl, hB2⟩; have hBw2 := hBa.trans (hB2.mono hBa.size); have HR2 := Lib.hid (own_ext HR1.out (Ext.of_below hB2 (Nat.le_refl _))); obtain ⟨e0, e1⟩ := And.intro hBw2.size hB2.size))
      go_roundw
      case rel => exact ⟨k + 1, by omega, by go_num, by rw [Hid, List.take_succ_eq_append_getElem hlt, List.flatMap_append, List.flatMap_singleton, show l[k] = x by have := HX.out; rw [List.getElem?_eq_getElem hlt] at this; exact Option.some.inj this]; exact hown', hBg⟩
      case measure => simp [intOf]; omega
    · obtain rfl : k = l.length := by omega
      have hrow2 := hrow.out
      rw [List.take_length] at hrow2
      have HR := Lib.hid hrow2; clear hrow2 hrow
      obtain ⟨ao, cap, hv⟩ := own_form HR.out
      subst hv
      go_wp2
      go_ret
      exact ⟨_, rfl, HR.out, hB⟩
end Go.Proofs.YtepdlghobopdbaaGreatDoor
