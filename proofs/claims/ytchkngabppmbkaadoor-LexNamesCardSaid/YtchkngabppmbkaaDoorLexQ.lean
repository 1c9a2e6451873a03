/-
  WALKS: the statements' own 'awake'.
-/
import Derived.Test.YtchkngabppmbkaaDoorLexP
namespace Go.Proofs.YtchkngabppmbkaaDoor
open Go.RowKit

theorem T1 : Lx.tokensOf ⟨#[120, 58, 61, 49, 32, 126, 97]⟩ = ([⟨1, ⟨#[120]⟩, 0, 0⟩, ⟨4, ⟨#[58, 61]⟩, 1, 0⟩, ⟨2, ⟨#[49]⟩, 3, 0⟩], 0, 0) := by kernel_rfl
theorem N1 : Lx.notesOf ⟨#[120, 32, 126, 97]⟩ = ([⟨5, ⟨#[97]⟩, 2, 0⟩], 0) := by kernel_rfl
theorem A1 : Lx.applyOf ⟨#[97, 98, 99]⟩ [⟨1, 2, ⟨#[120, 121]⟩⟩] = (⟨#[97, 120, 121, 99]⟩, 0) := by kernel_rfl
theorem R1 : Lx.renameOf ⟨#[120, 32, 43, 32, 120, 115]⟩ ⟨#[120]⟩ ⟨#[121]⟩ = (⟨#[121, 32, 43, 32, 120, 115]⟩, 0) := by kernel_rfl

/-- Tokens that a call handed on, against the same ones written out. -/
theorem same_new (L : List Lx.Item) (ao : Option Addr) (cap : Nat) (W W3 : World) (h : Tks W W.heap.size ao (L.map Lx.Item.tk)) (h9 : L.length ≤ 1000) (n : Nat) (hn : n = L.length) (h3 : W3 = W.alloc (.cells ⟨toksCells L⟩ 63)) :
    Calls Tryd.prog 23 #[.slice ao n cap, .slice (some ⟨W.heap.size, 0, none⟩) n n] W3 fun e w' => e = .returned (.bool true) ∧ Below W.heap.size W w' := by
  subst hn
  have hb : Below W.heap.size W W3 := by rw [h3]; exact (Below.refl _ _).alloc (Nat.le_refl _) _
  have hsz : W3.heap.size = W.heap.size + 1 := by rw [h3]; simp
  have h2 : Tks W3 W3.heap.size (some ⟨W.heap.size, 0, none⟩) (L.map Lx.Item.tk) := fun _ => ⟨_, _, rfl, by omega, fun i x hx => by
    rw [List.getElem?_map] at hx
    obtain ⟨y, hy, rfl⟩ := Option.map_eq_some_iff.1 hx
    rw [Nat.zero_add, h3]
    exact ⟨cells_new_at W _ _ _ _ (toksCells_get L i y hy 0 _ rfl), cells_new_at W _ _ _ _ (toksCells_get L i y hy 1 _ rfl), cells_new_at W _ _ _ _ (toksCells_get L i y hy 2 _ rfl)⟩⟩
  have := sameTokens_any (L.map Lx.Item.tk) (L.map Lx.Item.tk) ao (some ⟨W.heap.size, 0, none⟩) cap L.length W3 (by simp; omega) (by simp; omega) ((h.below hb).mono (by omega)) h2
  rw [List.length_map] at this
  refine this.mono ?_
  rintro e w' ⟨rfl, hB⟩
  exact ⟨by simp, hb.trans (hB.mono (by omega))⟩
theorem spls_new (W : World) : Spls (W.alloc (.cells #[.int .i64 1, .int .i64 2, .string ⟨#[120, 121]⟩] 56)) (W.alloc (.cells #[.int .i64 1, .int .i64 2, .string ⟨#[120, 121]⟩] 56)).heap.size (some ⟨W.heap.size, 0, none⟩) [⟨1, 2, ⟨#[120, 121]⟩⟩] := fun _ => ⟨_, _, rfl, by simp, fun i x hx => by
  rcases i with _ | i
  · simp at hx; subst hx
    exact ⟨cells_new_at W _ _ 0 _ rfl, cells_new_at W _ _ 1 _ rfl, cells_new_at W _ _ 2 _ rfl⟩
  · simp at hx⟩

set_option maxRecDepth 100000 in
set_option maxHeartbeats 4000000 in
theorem awake_any (w : World) (hG : GV w) : Calls Tryd.prog 18 #[] w fun e w' => e = .returned (.bool true) ∧ Below w.heap.size w w' := by
  have HT := Lib.hid (tokens_any ⟨#[120, 58, 61, 49, 32, 126, 97]⟩ (by decide) w hG)
  rw [T1] at HT
  have HN := Lib.hid (fun (W : World) (hW : GV W) => notes_any ⟨#[120, 32, 126, 97]⟩ (by decide) W hW)
  rw [N1] at HN
  have HA := Lib.hid (fun (W : World) => apply_any ⟨#[97, 98, 99]⟩ [⟨1, 2, ⟨#[120, 121]⟩⟩] (some ⟨W.heap.size, 0, none⟩) 1 (W.alloc (.cells #[.int .i64 1, .int .i64 2, .string ⟨#[120, 121]⟩] 56)) (by decide) (by decide) (by decide) (spls_new W))
  rw [A1] at HA
  have HR := Lib.hid (fun (W : World) (hW : GV W) => rename_any ⟨#[120, 32, 43, 32, 120, 115]⟩ ⟨#[120]⟩ ⟨#[121]⟩ W (by decide) (by decide) (by decide) hW)
  rw [R1] at HR
  go_enter Tryd.func18, Tryd.ntmps18
  go_wp2_with (first
    | (go_at_call 19; refine HT.out.mono ?_; rintro e w1 ⟨v1, rfl, hown1, hB1⟩; obtain ⟨ao1, cap1, rfl, htk1⟩ := own_tks hown1)
    | (go_at_call 21; refine (HN.out _ (hG.below hB1)).mono ?_; rintro e w2 ⟨v2, rfl, hown2, hB2⟩; obtain ⟨ao2, cap2, rfl, htk2⟩ := own_tks hown2; have hB12 := hB1.trans (hB2.mono hB1.size))
    | (go_at_call 35; refine (HA.out w2).mono ?_; rintro e w3 ⟨rfl, hB3⟩; have hB23 := ((Below.refl _ w2).alloc (Nat.le_refl _) _).trans (hB3.mono (by rw [World.size_alloc]; exact Nat.le_succ _)); have hB13 := hB12.trans (hB23.mono hB12.size))
    | (go_at_call 46; refine (HR.out w3 (hG.below hB13)).mono ?_; rintro e w4 ⟨rfl, hB4⟩; have hB14 := hB13.trans (hB4.mono hB13.size); have tk1 := (htk1.below ((hB2.mono (Nat.le_refl _)).trans ((hB23.mono hB2.size).trans (hB4.mono (Nat.le_trans hB2.size hB23.size))))).mono (Nat.le_trans hB2.size (Nat.le_trans hB23.size hB4.size)); have tk2 := (htk2.below (hB23.trans (hB4.mono hB23.size))).mono (Nat.le_trans hB23.size hB4.size))
    | (go_at_call 23; refine (same_new _ ao2 cap2 w5 _ tk5 (by decide) 1 rfl rfl).mono ?_; rintro e w6 ⟨rfl, hB6⟩)
    | (go_at_call 23; go_loud (refine (same_new _ ao1 cap1 w4 _ tk1 (by decide) 3 rfl rfl).mono ?_; rintro e w5 ⟨rfl, hB5⟩; have tk5 := (tk2.below hB5).mono hB5.size)))
  go_ret
  exact ⟨rfl, (hB14.trans (hB5.mono hB14.size)).trans (hB6.mono (Nat.le_trans hB14.size hB5.size))⟩
end Go.Proofs.YtchkngabppmbkaaDoor
