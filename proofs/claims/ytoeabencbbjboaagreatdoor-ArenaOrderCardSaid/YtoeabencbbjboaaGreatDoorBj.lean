/-
  WALKS: texts of base types, one after the other.
-/
import Derived.Test.YtoeabencbbjboaaGreatDoorBi
namespace Go.Proofs.YtoeabencbbjboaaGreatDoor
open Go.RowKit Go.MapKept Go.Shelf

theorem infoStr : (Tryz.prog.info? 9).map (fun i => (i.zero, i.size, i.bytes)) = some (some (.string ⟨#[]⟩), 1, 16) := by kernel_rfl
def baseCell (b : Ar.Bs) : List Value := [.string (Ar.baseB b)]
theorem cell_one_at (W : World) (N : Nat) (hN : N = W.heap.size) (a : Value) (t : TypeId) : ∀ j u, [a][j]? = some u → (W.alloc (.cells #[a] t)).cell? ((⟨N, 0, none⟩ : Addr).add j) = some u := by
  subst hN
  intro j u hu
  have h : (⟨W.heap.size, 0, none⟩ : Addr).add j = ⟨W.heap.size, j, none⟩ := by unfold Addr.add; split <;> simp_all
  rw [h, (World.cell?_of_block rfl : (W.alloc (.cells #[a] t)).cell? ⟨W.heap.size, j, none⟩ = _)]
  unfold World.cell?
  rw [World.alloc_heap_new]
  simpa using hu

set_option maxRecDepth 100000 in
set_option maxHeartbeats 4000000 in
theorem each_base (l : List Ar.Bs) (A : Option Addr) (c : Nat) (w : World) (hT : Bas w w.heap.size A l) (hO : ∀ x ∈ l, BsOk x) (hG : GT w) (hL : l.length ≤ 1000000) :
    Calls Tryz.prog 112 #[.slice A l.length c, .func (.func 59) #[] #[]] w fun e w' => ∃ v, e = .returned v ∧ w'.ownsRow w.heap.size 9 1 v l.length (l.flatMap baseCell) ∧ Below w.heap.size w w' := by
  obtain ⟨i0, hi, hz0, hz1, hz2⟩ := info_parts infoStr
  have HT := Lib.hid hT
  have HP := Lib.hid (fun (x : Ar.Bs) (k : Nat) => fun (hx : l[k]? = some x) (W : World) (hB : Below w.heap.size w W) => baseText_any x (hO x (List.mem_of_getElem? hx)) W (hG.below hB))
  clear hT hO hG
  go_enter Tryz.func112, Tryz.ntmps112
  go_wp2
  go_loopw [5, 10] (fun v i wr => ∃ k : Nat, k ≤ l.length ∧ i = .int .i64 k ∧ Hid (wr.ownsRow w.heap.size 9 1 v k ((l.take k).flatMap baseCell)) ∧ Below w.heap.size w wr) (fun _ i _ => l.length - (intOf i).toNat)
  case atStart => exact ⟨0, Nat.zero_le _, rfl, World.ownsRow_nil _ _ _ _, Below.refl _ _⟩
  case round =>
    obtain ⟨k, hk, rfl, hrow, hB⟩ := hrel
    by_cases hlt : k < l.length
    · obtain ⟨x, hx⟩ : ∃ x, l[k]? = some x := ⟨_, List.getElem?_eq_getElem hlt⟩
      obtain ⟨b, off, hA, hbB, hc⟩ := (HT.out.below hB) (by intro e; rw [e] at hlt; simp at hlt)
      obtain ⟨c0, c1⟩ := hc k x hx
      have HX := Lib.hid hx
      have hq0 := block_of_cell c0
      clear hx hc
      subst hA
      have hBa := hB.alloc hB.size (.cells #[.bool x.cell, .int .i64 x.n] 24 (0, 0))
      have hb0 := Lib.hid (World.alloc_heap_new wr (.cells #[.bool x.cell, .int .i64 x.n] 24 (0, 0)))
      have hcall := HP.out x k HX.out _ hBa

      obtain ⟨ao, cap, hv⟩ := own_form hrow.out
      subst hv
      have hr1 := own_ext hrow.out (Ext.of_below ((Below.refl wr.heap.size wr).alloc (Nat.le_refl _) (.cells #[.bool x.cell, .int .i64 x.n] 24 (0, 0))) (Nat.le_refl _))
      have HR1 := Lib.hid hr1
      have HC := Lib.hid hcall
      have hsz := hB.size
      clear hr1 hcall hrow
      go_wp2_with (first
        | (at_builtin; go_loud (refine wpList_append_own_at _ rfl _ _ 86 rfl w.heap.size 9 i0 (.string ⟨#[]⟩) 1 16 Tryz.underlying86 hi hz0 hz1 hz2 rfl (by decide) _ _ _ rfl (HR2.out.alloc _) ⟨w2.heap.size, 0, none⟩ 1 1 (baseCell x) rfl rfl (cell_one_at _ _ (by simp) _ _) (by simp [baseCell, Value.oneCell']) (by unfold maxLen; omega) (by omega) (by simp; omega) ?_); intro v' w3 hown' hgrow _ hat; have hBg := (hBw2.alloc hBw2.size (.cells (baseCell x).toArray 9)).grown hgrow (by simp; omega) (fun j e => own_low HR2.out e))
        | (go_at_call 59; refine HC.out.mono ?_; rintro e w2 ⟨rfl, hB2⟩; have hBw2 := hBa.trans (hB2.mono hBa.size); have HR2 := Lib.hid (own_ext HR1.out (Ext.of_below hB2 (Nat.le_refl _))); obtain ⟨e0, e1⟩ := And.intro hBw2.size hB2.size))
      go_roundw
      case rel => exact ⟨k + 1, by omega, by go_num, by rw [Hid, List.take_succ_eq_append_getElem hlt, List.flatMap_append, List.flatMap_singleton, show l[k] = x by have := HX.out; rw [List.getElem?_eq_getElem hlt] at this; exact Option.some.inj this]; exact hown', hBg⟩
      case measure => simp [intOf]; omega
    · obtain rfl : k = l.length := by omega
      have hrow2 := hrow.out
      rw [List.take_length] at hrow2
      have HR := Lib.hid hrow2; clear hrow2 hrow
      obtain ⟨ao, cap, hv⟩ := own_form HR.out
      subst hv
      go_wp2
      go_ret
      exact ⟨_, rfl, HR.out, hB⟩
end Go.Proofs.YtoeabencbbjboaaGreatDoor
