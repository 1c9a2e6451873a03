/-
  WALKS: the reference: Begins, Split, readBase.
-/
import Derived.Test.YtepdlghobopdbaaGreatDoorHe
import Derived.Test.YtepdlghobopdbaaGreatDoorFd
import Derived.Test.YtepdlghobopdbaaGreatDoorHc
namespace Go.Proofs.YtepdlghobopdbaaGreatDoor
open Go.RowKit Go.MapKept Go.Shelf
namespace Ar
theorem split_hitB {s sep : ByteArray} {f i : Nat} (h1 : 1 ≤ sep.size) (hf : f ≤ i) (hi : i + sep.size ≤ s.size) (hno : Lib.NoOcc (s.data.toList.drop f) sep.data.toList (i - f)) (he : s.extract i (i + sep.size) = sep) :
    splitBs (s.extract f s.size) sep = s.extract f i :: splitBs (s.extract (i + sep.size) s.size) sep := by
  have hl : (s.extract f s.size).size = s.size - f := by rw [ByteArray.size_extract]; omega
  have hsl : s.data.toList.length = s.size := rfl
  have hpl : sep.data.toList.length = sep.size := rfl
  have hix : Lib.indexB (s.extract f s.size) sep = ((i - f : Nat) : Int) := by
    show Lib.index (s.extract f s.size).data.toList sep.data.toList = _
    rw [ext_data]
    refine Lib.index_hit hno (by rw [List.length_drop]; omega) ?_
    rw [Lib.occAt_iff_take _ _ _ (by rw [List.length_drop]; omega), List.drop_drop, beq_iff_eq]
    have := congrArg (fun x : ByteArray => x.data.toList) he
    simp only [Lib.extract_data] at this
    rw [show f + (i - f) = i by omega, hpl]
    rwa [show i + sep.size - i = sep.size by omega] at this
  unfold splitBs
  rw [Lib.countB_hit _ _ _ h1 hix, Nat.add_comm 1, Lib.splitB_hit _ _ _ _ _ hix]
  have e1 : (s.extract f s.size).extract (i - f + sep.size) (s.extract f s.size).size = s.extract (i + sep.size) s.size := bytes_inj (by
    rw [ext_data, ext_data, ext_data, List.drop_drop]
    congr 1; omega)
  have e2 : (s.extract f s.size).extract 0 (i - f + 0) = s.extract f i := bytes_inj (by
    rw [Lib.extract_data, Lib.extract_data, Lib.extract_data, List.drop_zero, List.take_take]
    congr 1; omega)
  rw [e1, e2]
theorem split_missB {x sep : ByteArray} {n : Nat} (h1 : 1 ≤ sep.size) (hno : Lib.NoOcc x.data.toList sep.data.toList n) (hn : x.size < n + sep.size) : splitBs x sep = [x] := by
  have hix : Lib.indexB x sep = -1 := by
    refine Lib.index_past ?_ hno hn
    intro e
    have : sep.data.toList.length = 0 := by rw [e]; rfl
    have : sep.data.toList.length = sep.size := rfl
    omega
  unfold splitBs
  rw [Lib.countB_miss _ _ hix, Lib.splitB_zero]
theorem noOcc_next {s sep : ByteArray} {f i : Nat} (hf : f ≤ i) (hi : i + sep.size ≤ s.size) (hno : Lib.NoOcc (s.data.toList.drop f) sep.data.toList (i - f)) (hne : s.extract i (i + sep.size) ≠ sep) : Lib.NoOcc (s.data.toList.drop f) sep.data.toList (i + 1 - f) := by
  have hsl : s.data.toList.length = s.size := rfl
  have hpl : sep.data.toList.length = sep.size := rfl
  rw [show i + 1 - f = (i - f) + 1 by omega]
  refine hno.succ ?_
  rw [Lib.occAt_iff_take _ _ _ (by rw [List.length_drop]; omega), List.drop_drop, beq_eq_false_iff_ne]
  intro e
  refine hne (bytes_inj ?_)
  rw [Lib.extract_data, show i + sep.size - i = sep.data.toList.length by omega]
  rw [show f + (i - f) = i by omega] at e
  exact e
theorem ext_all (s : ByteArray) : s.extract 0 s.size = s := bytes_inj (by rw [ext_data]; rfl)
end Ar

set_option maxRecDepth 100000 in
set_option maxHeartbeats 4000000 in
theorem begins_any (s p : ByteArray) (w : World) : Calls Tryz.prog 70 #[.string s, .string p] w fun e w' => e = .returned (.bool (Lib.hasPrefix s.data.toList p.data.toList)) ∧ w' = w := by
  rw [← Lib.hasPrefix_raw]
  by_cases h : p.size ≤ s.size
  · have h1 : (p.size : Int) ≤ (s.size : Int) := by omega
    have h0 : (0 : Int) ≤ (p.size : Int) := by omega
    rw [decide_eq_true h, Bool.true_and]
    clear h
    go_enter Tryz.func70, Tryz.ntmps70
    go_wp2
    go_ret
    exact ⟨rfl, rfl⟩
  · have h1 : ¬ ((p.size : Int) ≤ (s.size : Int)) := by omega
    rw [decide_eq_false h, Bool.false_and]
    go_enter Tryz.func70, Tryz.ntmps70
    go_wp2
    go_ret
    exact ⟨rfl, rfl⟩

set_option maxRecDepth 100000 in
set_option maxHeartbeats 8000000 in
theorem refSplit_any (s sep : ByteArray) (hs : s.size ≤ 1000000) (h1 : 1 ≤ sep.size) (h2 : sep.size ≤ 100) (w : World) :
    Calls Tryz.prog 28 #[.string s, .string sep] w fun e w' => ∃ (A' : Option Addr) (c' : Nat), e = .returned (.slice A' (Ar.splitBs s sep).length c') ∧ w'.ownsRow w.heap.size 9 1 (.slice A' (Ar.splitBs s sep).length c') (Ar.splitBs s sep).length ((Ar.splitBs s sep).map Value.string) ∧ Below w.heap.size w w' := by
  obtain ⟨i0, hi, hz0, hz1, hz2⟩ := info_parts infoStr
  obtain ⟨R, hR⟩ : ∃ R, Ar.splitBs s sep = R := ⟨_, rfl⟩
  have hlen := Ar.splitBs_len (s := s) h1
  rw [hR] at hlen ⊢
  have HR : Hid (R = [] ++ Ar.splitBs (s.extract 0 s.size) sep) := by rw [Hid, Ar.ext_all, hR]; rfl
  have HLEN := Lib.hid hlen
  clear hR hlen
  go_enter Tryz.func28, Tryz.ntmps28
  go_wp2
  go_loopw [5, 6, 7] (fun v x y wr => ∃ (f i : Nat) (L : List ByteArray), x = .int .i64 (f : Int) ∧ y = .int .i64 (i : Int) ∧ f ≤ i ∧ i ≤ s.size ∧ Hid (R = L ++ Ar.splitBs (s.extract f s.size) sep) ∧ Hid (Lib.NoOcc (s.data.toList.drop f) sep.data.toList (i - f)) ∧ Hid (wr.ownsRow w.heap.size 9 1 v L.length (L.map Value.string)) ∧ Below w.heap.size w wr) (fun _ _ y _ => s.size + 1 - (intOf y).toNat)
  case atStart => exact ⟨0, 0, [], rfl, rfl, Nat.le_refl _, Nat.zero_le _, HR.out, Lib.NoOcc.zero _ _, World.ownsRow_nil _ _ _ _, Below.refl _ _⟩
  case round =>
    obtain ⟨f, i, L, rfl, rfl, hfi, his, hL, hno, hrow, hB⟩ := hrel
    have hLl : L.length + 1 ≤ 1000002 := by
      obtain ⟨x, l, hx⟩ := Ar.splitBs_ne (s.extract f s.size) sep
      have h3 := congrArg List.length hL.out
      rw [hx, List.length_append, List.length_cons] at h3
      have := HLEN.out
      omega
    have HA1 : Hid (L.length + 1 ≤ maxLen) := by rw [Hid]; unfold maxLen; omega
    have HA2 : Hid ((L.length + 1) * 16 ≤ 140737488355328) := by rw [Hid]; omega
    have HA3 : Hid (w.heap.size ≤ wr.heap.size + 1) := by have := hB.size; rw [Hid]; omega
    clear hLl
    obtain ⟨ao, cap, hv⟩ := own_form hrow.out
    subst hv
    have hq0 : (0 : Int) ≤ (f : Int) := by omega
    have hq1 : (f : Int) ≤ (i : Int) := by omega
    have hq2 : (i : Int) ≤ (s.size : Int) := by omega
    have hq3 : (0 : Int) ≤ (i : Int) := by omega
    have hq4 : (f : Int) ≤ (s.size : Int) := by omega
    have hw1 : wrap64 ((i : Int) + (sep.size : Int)) = ((i + sep.size : Nat) : Int) := by unfold wrap64; omega
    have hw2 : IntKind.i64.wrap ((i : Int) + (sep.size : Int)) = ((i + sep.size : Nat) : Int) := by rw [IntWalk.i64_left]; exact hw1
    by_cases hin : i + sep.size ≤ s.size
    · have hin' : ((i + sep.size : Nat) : Int) ≤ (s.size : Int) := by omega
      have hq5 : (i : Int) ≤ ((i + sep.size : Nat) : Int) := by omega
      by_cases heq : s.extract i (i + sep.size) = sep
      · have hw3 : wrap64 (((i + sep.size : Nat) : Int) - 1) = ((i + sep.size - 1 : Nat) : Int) := by unfold wrap64; omega
        have hw4 : IntKind.i64.wrap (((i + sep.size : Nat) : Int) - 1) = ((i + sep.size - 1 : Nat) : Int) := by rw [IntWalk.i64_left]; exact hw3
        have hw5 : wrap64 (((i + sep.size - 1 : Nat) : Int) + 1) = ((i + sep.size : Nat) : Int) := by unfold wrap64; omega
        have hw6 : IntKind.i64.wrap (((i + sep.size - 1 : Nat) : Int) + 1) = ((i + sep.size : Nat) : Int) := by rw [IntWalk.i64_left]; exact hw5
        have HS := Lib.hid (Ar.split_hitB h1 hfi hin hno.out heq)
        have hbe : ((s.extract i (i + sep.size)).toList == sep.toList) = true := by rw [heq]; exact beq_self_eq_true _
        have HIN := Lib.hid hin
        have hsz := hB.size
        generalize hn : i + sep.size = n at *
        have HN := Lib.hid hn
        clear heq hin hn
        go_wp2_with (first
          | (at_builtin; refine wpList_append_own_at _ rfl _ _ 60 rfl w.heap.size 9 i0 (.string ⟨#[]⟩) 1 16 Tryz.underlying60 hi hz0 hz1 hz2 rfl (by decide) _ _ _ rfl (hrow.out.alloc _) ⟨wr.heap.size, 0, none⟩ 1 1 [.string (s.extract f i)] rfl rfl (cell_one_at _ _ (by simp) _ _) (by simp [Value.oneCell']) HA1.out HA2.out (by rw [size_alloc]; exact HA3.out) ?_; intro v' w3 hown' hgrow _ hat; have hBg := (hB.alloc hB.size (.cells #[.string (s.extract f i)] 9)).grown hgrow (by rw [size_alloc]; exact HA3.out) (fun j e => own_low hrow.out e)))
        go_roundw
        case rel =>
          refine ⟨n, n, L ++ [s.extract f i], rfl, by go_num, Nat.le_refl _, HIN.out, ?_, ?_, ?_, hBg⟩
          · rw [Hid, List.append_assoc, List.singleton_append, ← HS.out]; exact hL.out
          · rw [Hid, Nat.sub_self]; exact Lib.NoOcc.zero _ _
          · rw [Hid, List.length_append, List.map_append]; exact hown'
        case measure =>
          have h3 := HN.out
          have h4 := HIN.out
          clear hw1 hw2 hw3 hw4 hw5 hw6
          simp [intOf]; omega
      · have hbe : ((s.extract i (i + sep.size)).toList == sep.toList) = false := by
          rw [beq_eq_false_iff_ne, ByteArray.toList_eq, ByteArray.toList_eq]
          exact fun e => heq (Ar.bytes_inj e)
        have HN := Lib.hid (Ar.noOcc_next hfi hin hno.out heq)
        have HF1 : Hid (f ≤ i + 1) := Nat.le_succ_of_le hfi
        have HI1 : Hid (i + 1 ≤ s.size) := Nat.le_trans (Nat.add_le_add_left h1 i) hin
        generalize hn : i + sep.size = n at *
        clear heq hin hn
        go_wp2
        go_roundw
        case rel => exact ⟨f, i + 1, L, rfl, by go_num, HF1.out, HI1.out, hL.out, HN.out, hrow.out, hB⟩
        case measure =>
          clear hw1 hw2
          have h4 := HI1.out
          simp [intOf]; omega
    · have hin' : ¬ (((i + sep.size : Nat) : Int) ≤ (s.size : Int)) := by omega
      have HS := Lib.hid (Ar.split_missB (x := s.extract f s.size) (n := i - f) h1 (by rw [Ar.ext_data]; exact hno.out) (by rw [ByteArray.size_extract]; omega))
      have hsz := hB.size
      generalize hn : i + sep.size = n at *
      clear hin hn
      go_wp2_with (first
        | (at_builtin; refine wpList_append_own_at _ rfl _ _ 60 rfl w.heap.size 9 i0 (.string ⟨#[]⟩) 1 16 Tryz.underlying60 hi hz0 hz1 hz2 rfl (by decide) _ _ _ rfl (hrow.out.alloc _) ⟨wr.heap.size, 0, none⟩ 1 1 [.string (s.extract f s.size)] rfl rfl (cell_one_at _ _ (by simp) _ _) (by simp [Value.oneCell']) HA1.out HA2.out (by rw [size_alloc]; exact HA3.out) ?_; intro v' w3 hown' hgrow _ hat; have hBg := (hB.alloc hB.size (.cells #[.string (s.extract f s.size)] 9)).grown hgrow (by rw [size_alloc]; exact HA3.out) (fun j e => own_low hrow.out e)))
      go_ret
      have hRR : R = L ++ [s.extract f s.size] := by rw [hL.out, HS.out]
      obtain ⟨ao2, cap2, hv2⟩ := own_form hown'
      subst hv2
      refine ⟨ao2, cap2, ?_, ?_, hBg⟩
      · rw [hRR, List.length_append]; rfl
      · rw [hRR, List.length_append, List.map_append]; exact hown'
end Go.Proofs.YtepdlghobopdbaaGreatDoor
