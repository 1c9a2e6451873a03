/-
  WALKS: each at an empty list.
-/
import Derived.Test.YtepdlghobopdbaaGreatDoorBn
namespace Go.Proofs.YtepdlghobopdbaaGreatDoor
open Go.RowKit Go.MapKept Go.Shelf

set_option maxRecDepth 100000 in
set_option maxHeartbeats 1000000 in
theorem each_type_nil (A : Option Addr) (c : Nat) (w : World) : Calls Tryz.prog 59 #[.slice A 0 c, .func (.func 60) #[] #[]] w fun e w' => e = .returned (.slice none 0 0) ∧ w' = w := by
  go_enter Tryz.func59, Tryz.ntmps59
  go_wp2
  refine wp_loop_rounds 1 ?_
  rw [rounds_succ]
  go_wp2
  go_ret
  exact ⟨rfl, rfl⟩
set_option maxRecDepth 100000 in
set_option maxHeartbeats 8000000 in
theorem show_none (a : Ar.Are) (A : Option Addr) (c : Nat) (P : Nat → Option Addr × Nat) (w : World) (hA : ArM w A P a) (hk : Ar.checkOf a = 0) (hne : a.ids = []) (hG : GT w) :
    Calls Tryz.prog 24 #[arV A c a] w fun e w' => e = .returned (.tuple #[.string (Ar.showB a), .int .i64 0]) ∧ Below w.heap.size w w' := by
  obtain ⟨i0, hi, hz0, hz1, hz2⟩ := info_parts infoStr
  obtain ⟨ok1, ok2⟩ := right_ok (Ar.right_of_check hk)
  have hl8 := (Ar.right_of_check hk).ids
  have hB0 : Below w.heap.size w (w.alloc (.cells #[.slice A a.ids.length c, .bool a.root.cell, .int .i64 a.root.n, .bool a.jumps] 27 (0, 0))) := (Below.refl _ _).alloc (Nat.le_refl _) _
  have j0 := Lib.hid (World.alloc_heap_new w (.cells #[.slice A a.ids.length c, .bool a.root.cell, .int .i64 a.root.n, .bool a.jumps] 27 (0, 0)))
  have HC := Lib.hid (check_any a A c P _ (hA.below hB0))
  rw [hk] at HC
  have HX := Lib.hid (fun W (hB : Below w.heap.size w W) => baseText_any a.root ok1 W (hG.below hB))
  have hav : arV A c a = .agg #[.slice A a.ids.length c, .bool a.root.cell, .int .i64 a.root.n, .bool a.jumps] := rfl
  have hn : a.ids.length = 0 := by rw [hne]; rfl
  have HPS : Hid (∀ x ∈ Ar.partsB a, x.size ≤ 107000120) := fun x hx => by
    unfold Ar.partsB at hx
    simp only [List.mem_append, List.mem_map, List.mem_singleton] at hx
    rcases hx with (rfl | ⟨t, ht, rfl⟩) | hx
    · have := baseB_size a.root ok1; omega
    · exact typeB_size t (ok2 t ht)
    · split at hx
      · obtain rfl := List.mem_singleton.1 hx
        show 5 ≤ _; omega
      · cases hx
  have HP : Hid (Ar.partsB a = [Ar.baseB a.root] ++ (if a.jumps = true then [⟨#[106, 117, 109, 112, 115]⟩] else [])) := by unfold Ar.partsB; rw [Hid, hne]; simp
  have HJ0 := Lib.hid (fun (l : List ByteArray) v W (h : World.ownsRow W w.heap.size 9 1 v l.length (l.map .string)) (hs : ∀ x ∈ l, x.size ≤ 107000120) (hl : l.length ≤ 1000001) => join_row l ⟨#[59, 32]⟩ v w.heap.size 107000120 W h hs hl (by have : (⟨#[59, 32]⟩ : ByteArray).size = 2 := rfl; omega))
  rw [hn] at hav hB0 j0
  rw [hav] at HC ⊢
  rw [hn] at HC
  clear hav hA hG hk hne ok1 ok2 hl8
  go_enter Tryz.func24, Tryz.ntmps24
  go_wp2_with (go_at_call 21; refine HC.out.mono ?_; rintro e w2 ⟨rfl, hB2⟩; have hBw2 := hB0.trans (hB2.mono hB0.size); have j2 := Lib.hid ((hB2.block _ (lt_of_heap j0.out)).trans j0.out))
  obtain ⟨r0, r1, r2, r3, -, -, -, -⟩ := cells4 j2.out
  have hS0 : AS w A 0 c a.root.cell a.root.n a.jumps w2.drew := ⟨hBw2.drew, r0, r1, r2, r3⟩
  have HS0 := Lib.hid hS0
  have hsz2 := lt_of_heap j2.out
  clear hS0 r0 r1 r2 r3 hB0 hB2
  generalize hrb : Ar.baseB a.root = rb at *
  have HROW2 := Lib.hid (fun (W : World) v (l : List ByteArray) (h : W.ownsRow w.heap.size 9 1 v (l.length + 1) (l.map .string ++ [.string ⟨#[106, 117, 109, 112, 115]⟩])) => (show W.ownsRow w.heap.size 9 1 v (l ++ [(⟨#[106, 117, 109, 112, 115]⟩ : ByteArray)]).length ((l ++ [(⟨#[106, 117, 109, 112, 115]⟩ : ByteArray)]).map Value.string) by
    have e1 : (l ++ [(⟨#[106, 117, 109, 112, 115]⟩ : ByteArray)]).length = l.length + 1 := by simp
    have e2 : (l ++ [(⟨#[106, 117, 109, 112, 115]⟩ : ByteArray)]).map Value.string = l.map .string ++ [.string ⟨#[106, 117, 109, 112, 115]⟩] := by simp
    rw [e1, e2]; exact h))
  go_region_held3 (fun w' => Below w.heap.size w w' ∧ w'.cell? ⟨w.heap.size, 0, none⟩ = some (.slice A 0 c) ∧ w'.cell? ⟨w.heap.size, 1, none⟩ = some (.bool a.root.cell) ∧ w'.cell? ⟨w.heap.size, 2, none⟩ = some (.int .i64 a.root.n) ∧ w'.cell? ⟨w.heap.size, 3, none⟩ = some (.bool a.jumps))
    (first
      | exact HS0.out
      | exact AS.next (by assumption) hB8
      | exact AS.next (by assumption) ((Below.refl _ _).alloc (Nat.le_refl _) _)
      | go_keep)
    ((first
      | (go_at_call 59; refine (each_type_nil _ _ _).mono ?_; rintro e w7 ⟨rfl, hw7⟩; have hw8 := hw7.symm; subst hw8)
      | (go_at_call 58; refine (HX.out _ (SI_below (by assumption))).mono ?_; rintro e w8 ⟨rfl, hB8⟩; have hz8 : w.heap.size < w8.heap.size := Nat.lt_of_lt_of_le hsz2 hB8.size)))
  all_goals
    have hS9 : AS w A 0 c a.root.cell a.root.n a.jumps (w8.alloc (.cells #[.string rb] 9 (0, 0))) := by assumption
    obtain ⟨hB9, q0, q1, q2, q3⟩ := hS9
    have hown := row_one rb (Nat.le_of_lt hz8) (Below.refl _ (w8.alloc (.cells #[.string rb] 9 (0, 0))))
    generalize hwx : w8.alloc (.cells #[.string rb] 9 (0, 0)) = w9 at *
    cases hj : a.jumps
    · rw [hj] at q3 HP
      have HJ := Lib.hid (HJ0.out [rb] _ _ hown (fun x hx => HPS.out x (by rw [HP.out]; simpa using hx)) (by simp))
      have HV : Hid (Ar.showB a = Ar.joinB [rb] ⟨#[59, 32]⟩) := by unfold Ar.showB; rw [Hid, HP.out]; simp
      clear hown
      go_wp2_with (go_at_call 61; refine HJ.out.mono ?_; rintro e w10 ⟨rfl, hB10⟩)
      exact bodyPost_ret (v := .tuple #[.string (Ar.joinB [rb] ⟨#[59, 32]⟩), .int .i64 0]) (by simp [results, Tryz.results24, go_sem]) rfl ⟨by rw [HV.out], hB9.trans (hB10.mono hB9.size)⟩
    · rw [hj] at q3 HP
      have HR := Lib.hid hown
      have HV : Hid (Ar.showB a = Ar.joinB ([rb] ++ [⟨#[106, 117, 109, 112, 115]⟩]) ⟨#[59, 32]⟩) := by unfold Ar.showB; rw [Hid, HP.out]; simp
      clear hown
      have hz9 := hB9.size
      go_wp2_with (first
        | (at_builtin; go_loud (refine wpList_append_own_at _ rfl _ _ 60 rfl w.heap.size 9 i0 (.string ⟨#[]⟩) 1 16 Tryz.underlying60 hi hz0 hz1 hz2 rfl (by decide) _ _ _ rfl (HR.out.alloc _) ⟨w9.heap.size, 0, none⟩ 1 1 [.string ⟨#[106, 117, 109, 112, 115]⟩] rfl rfl (cell_one_at _ _ (by simp) _ _) (by simp [Value.oneCell']) (by unfold maxLen; omega) (by omega) (by simp; omega) ?_); intro v' w11 hown' hgrow _ hat; have hB11 := (hB9.alloc hB9.size (.cells #[.string ⟨#[106, 117, 109, 112, 115]⟩] 9)).grown hgrow (by simp; omega) (fun j e => own_low HR.out e); have HJ := Lib.hid (HJ0.out _ v' _ (HROW2.out _ _ [rb] hown') (fun x hx => HPS.out x (by rw [HP.out]; simpa using hx)) (by simp)))
        | (go_at_call 61; refine HJ.out.mono ?_; rintro e w10 ⟨rfl, hB10⟩))
      exact bodyPost_ret (v := .tuple #[.string (Ar.joinB ([rb] ++ [⟨#[106, 117, 109, 112, 115]⟩]) ⟨#[59, 32]⟩), .int .i64 0]) (by simp [results, Tryz.results24, go_sem]) rfl ⟨by rw [HV.out], hB11.trans (hB10.mono hB11.size)⟩

set_option maxRecDepth 100000 in
set_option maxHeartbeats 4000000 in
theorem show_err (a : Ar.Are) (A : Option Addr) (c : Nat) (P : Nat → Option Addr × Nat) (w : World) (hA : ArM w A P a) (hk : Ar.checkOf a ≠ 0) :
    Calls Tryz.prog 24 #[arV A c a] w fun e w' => e = .returned (.tuple #[.string ⟨#[]⟩, .int .i64 (Ar.checkOf a : Int)]) ∧ Below w.heap.size w w' := by
  have hB0 : Below w.heap.size w (w.alloc (.cells #[.slice A a.ids.length c, .bool a.root.cell, .int .i64 a.root.n, .bool a.jumps] 27 (0, 0))) := (Below.refl _ _).alloc (Nat.le_refl _) _
  have HC := Lib.hid (check_any a A c P _ (hA.below hB0))
  have hav : arV A c a = .agg #[.slice A a.ids.length c, .bool a.root.cell, .int .i64 a.root.n, .bool a.jumps] := rfl
  have hne : ((Ar.checkOf a : Int) != 0) = true := by rw [bne_iff_ne]; omega
  rw [hav] at HC ⊢
  clear hav hA hk
  generalize Ar.checkOf a = er at *
  go_enter Tryz.func24, Tryz.ntmps24
  go_wp2_with (go_at_call 21; refine HC.out.mono ?_; rintro e w2 ⟨rfl, hB2⟩)
  exact bodyPost_ret (v := .tuple #[.string ⟨#[]⟩, .int .i64 (er : Int)]) (by simp [results, Tryz.results24, go_sem]) rfl ⟨rfl, hB0.trans (hB2.mono hB0.size)⟩
namespace Ar
def showRes (a : Are) : ByteArray × Nat := if checkOf a = 0 then (showB a, 0) else (⟨#[]⟩, checkOf a)
end Ar
theorem show_any (a : Ar.Are) (A : Option Addr) (c : Nat) (P : Nat → Option Addr × Nat) (w : World) (hA : ArM w A P a) (hG : GT w) :
    Calls Tryz.prog 24 #[arV A c a] w fun e w' => e = .returned (.tuple #[.string (Ar.showRes a).1, .int .i64 ((Ar.showRes a).2 : Int)]) ∧ Below w.heap.size w w' := by
  unfold Ar.showRes
  by_cases hk : Ar.checkOf a = 0
  · rw [if_pos hk]
    by_cases hne : a.ids = []
    · exact show_none a A c P w hA hk hne hG
    · exact show_some a A c P w hA hk hne hG
  · rw [if_neg hk]
    exact show_err a A c P w hA hk
end Go.Proofs.YtepdlghobopdbaaGreatDoor
