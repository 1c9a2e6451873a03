/-
  WALKS: slices.Grow of nil and slices.Concat of two lists of types.
  WALKS: types in memory of their own, one after the other.
  WALKS: Add.
  WALKS: the reference: a copy, with the row that it owns.
-/
import Derived.Test.YtepdlghobopdbaaGreatDoorDl
import Derived.Lib.AppendZeros
import Derived.Test.YtepdlghobopdbaaGreatDoorAq
import Derived.Test.YtepdlghobopdbaaGreatDoorBb
import Derived.Test.YtepdlghobopdbaaGreatDoorBx
namespace Go.Proofs.YtepdlghobopdbaaGreatDoor
open Go.RowKit Go.Shelf

/-- The types of a list, with where their params lie. -/
def ptsFrom (P : Nat → Option Addr × Nat) : Nat → List Ar.Ty → List Pt
  | _, [] => []
  | i, t :: l => (t, P i) :: ptsFrom P (i + 1) l
theorem ptsFrom_len (P : Nat → Option Addr × Nat) : ∀ (l : List Ar.Ty) (i : Nat), (ptsFrom P i l).length = l.length
  | [], _ => rfl
  | t :: l, i => by rw [ptsFrom, List.length_cons, List.length_cons, ptsFrom_len P l (i + 1)]
theorem ptsFrom_fst (P : Nat → Option Addr × Nat) : ∀ (l : List Ar.Ty) (i : Nat), (ptsFrom P i l).map Prod.fst = l
  | [], _ => rfl
  | t :: l, i => by rw [ptsFrom, List.map_cons, ptsFrom_fst P l (i + 1)]
theorem ptsFrom_get (P : Nat → Option Addr × Nat) : ∀ (l : List Ar.Ty) (i k : Nat) (x : Pt), (ptsFrom P i l)[k]? = some x → ∃ t, l[k]? = some t ∧ x = (t, P (i + k))
  | [], _, _, _, h => by simp [ptsFrom] at h
  | t :: l, i, 0, x, h => by
    simp only [ptsFrom, List.getElem?_cons_zero, Option.some.injEq] at h
    exact ⟨t, rfl, h.symm⟩
  | t :: l, i, k + 1, x, h => by
    simp only [ptsFrom, List.getElem?_cons_succ] at h
    obtain ⟨t', h1, h2⟩ := ptsFrom_get P l (i + 1) k x h
    exact ⟨t', by simpa using h1, by rw [h2, show i + 1 + k = i + (k + 1) by omega]⟩
theorem ptFlat_len (l : List Pt) : (l.flatMap ptCells).length = l.length * 3 := by
  induction l with
  | nil => rfl
  | cons x l ih => rw [List.flatMap_cons, List.length_append, ih, List.length_cons, ptCells_len]; omega
theorem ptFlat_one (l : List Pt) : ∀ u ∈ l.flatMap ptCells, u.oneCell' = true := fun u hu => by
  obtain ⟨x, _, hx⟩ := List.mem_flatMap.1 hu
  exact ptCells_one x u hx
theorem pts_at {W : World} {B : Nat} {A : Option Addr} {P : Nat → Option Addr × Nat} {l : List Ar.Ty} (h : Tys W B A P l) : ∀ ad, A = some ad → ∀ j u, ((ptsFrom P 0 l).flatMap ptCells)[j]? = some u → W.cell? (ad.add j) = some u := fun ad hA j u hu => by
  have hj : j < l.length * 3 := by have := (List.getElem?_eq_some_iff.1 hu).1; rw [ptFlat_len, ptsFrom_len] at this; exact this
  have hne : l ≠ [] := by intro e; subst e; simp at hj
  obtain ⟨b, off, hA', _, hc⟩ := h hne
  rw [hA'] at hA
  cases hA
  have hlt : j / 3 < (ptsFrom P 0 l).length := by rw [ptsFrom_len]; omega
  obtain ⟨x, hx⟩ : ∃ x, (ptsFrom P 0 l)[j / 3]? = some x := ⟨_, List.getElem?_eq_getElem hlt⟩
  obtain ⟨t, ht, rfl⟩ := ptsFrom_get P l 0 _ x hx
  obtain ⟨c0, c1, c2, -⟩ := hc _ t ht
  rw [Nat.zero_add] at hx
  rw [show (⟨b, off, none⟩ : Addr).add j = ⟨b, off + j, none⟩ by unfold Addr.add; split <;> simp_all]
  have hf := flat_get (f := ptCells) (s := 3) ptCells_len (ptsFrom P 0 l) (j / 3) _ hx (j % 3) (by omega)
  rw [show j / 3 * 3 + j % 3 = j by omega, hu] at hf
  have h3 : j % 3 = 0 ∨ j % 3 = 1 ∨ j % 3 = 2 := by omega
  rcases h3 with h2 | h2 | h2
  · rw [h2] at hf
    rw [show off + j / 3 * 3 = off + j by omega] at c0
    rw [c0]; exact hf.symm
  · rw [h2] at hf
    rw [show off + j / 3 * 3 + 1 = off + j by omega] at c1
    rw [c1]; exact hf.symm
  · rw [h2] at hf
    rw [show off + j / 3 * 3 + 2 = off + j by omega] at c2
    rw [c2]; exact hf.symm

theorem wrap_nat {n : Nat} (h : n ≤ 1000000) : wrap64 (n : Int) = (n : Int) := by unfold wrap64; omega
set_option maxRecDepth 100000 in
set_option maxHeartbeats 4000000 in
theorem growT_nil (n : Nat) (hn : n ≤ 1000000) (w : World) :
    Calls Tryz.prog 84 #[.slice none 0 0, .int .i64 (n : Int)] w fun e w' => ∃ A c, e = .returned (.slice A 0 c) ∧ w'.ownsRow w.heap.size 53 3 (.slice A 0 c) 0 [] ∧ Below w.heap.size w w' := by
  obtain ⟨i0, hi, hz0, hz1, hz2⟩ := info_parts infoTy
  by_cases h0 : n = 0
  · subst h0
    go_enter Tryz.func84, Tryz.ntmps84
    go_wp2
    go_ret
    exact ⟨none, 0, rfl, World.ownsRow_nil _ _ _ _, Below.refl _ _⟩
  · have hn0 : (0 : Int) < (n : Int) := by omega
    have hrun := fun ty => Lib.run_append_nil_zeros (P := Tryz.prog) w 23 3 ty 53 i0 _ .i64 .i64 Tryz.underlying23 Tryz.underlying3 hi hz0 n (by omega) (by omega) (by omega) (by rw [hz2]; omega)
    have hG := grownCap_ge w n 0 53
    have hGm := grownCap_le_maxLen w n 0 53 (by unfold maxLen; omega)
    generalize grownCap w n 0 53 = G at *
    have HG := Lib.hid hG; have HGm := Lib.hid hGm
    have hwn : wrap64 (n : Int) = (n : Int) := wrap_nat hn
    have HR : Hid (∀ ty, (Builtin.append_ #[23, 3] ty #[.slice none 0 0, .int .i64 (wrap64 (n : Int))]).run Tryz.prog w = .ok (.slice (some ⟨w.heap.size, 0, none⟩) n G) (w.drew.alloc (.cells (Builtin.zeroCells (Value.agg #[.slice none 0 0, .bool false, .int .i64 0]).cells n ++ Builtin.zeroCells (Value.agg #[.slice none 0 0, .bool false, .int .i64 0]).cells (G - n)) 53))) := fun ty => by rw [hwn]; exact hrun ty
    have hwp : 0 < wrap64 (n : Int) := by rw [hwn]; exact hn0
    clear hwn
    have hG0 : (0 : Int) ≤ (G : Int) := by omega
    clear hG hGm hrun h0 hn
    go_enter Tryz.func84, Tryz.ntmps84
    go_wp2_with (at_builtin; go_loud (refine Lib.wpList_append_run _ rfl _ _ _ _ rfl _ _ rfl rfl _ _ (HR.out _) ?_))
    go_ret
    refine ⟨some ⟨w.heap.size, 0, none⟩, G, rfl, ⟨rfl, .inr ⟨w.heap.size, G, _, rfl, Nat.le_refl _, World.alloc_heap_new w.drew _, Nat.zero_le _, HGm.out, ?_, rfl⟩⟩, ((Below.refl w.heap.size w).drew).alloc (Nat.le_refl _) _⟩
    have := HG.out
    rw [Array.size_append, size_zeroCells, size_zeroCells]
    show n * 3 + (G - n) * 3 = G * 3
    omega

set_option maxRecDepth 100000 in
set_option maxHeartbeats 4000000 in
theorem concat_any (l k : List Ar.Ty) (A B : Option Addr) (c d : Nat) (P Q : Nat → Option Addr × Nat) (sb : Nat) (w : World) (hl : l.length ≤ 1000) (hk : k.length ≤ 1000) (hT : Tys w w.heap.size A P l) (hU : Tys w w.heap.size B Q k)
    (hA : A = none → c = 0 ∧ l.length = 0) (hB : B = none → d = 0 ∧ k.length = 0) (h0 : w.cell? ⟨sb, 0, none⟩ = some (.slice A l.length c)) (h1 : w.cell? ⟨sb, 1, none⟩ = some (.slice B k.length d)) :
    Calls Tryz.prog 48 #[.slice (some ⟨sb, 0, none⟩) 2 2] w fun e w' => ∃ A' c', e = .returned (.slice A' (l.length + k.length) c') ∧ w'.ownsRow w.heap.size 53 3 (.slice A' (l.length + k.length) c') (l.length + k.length) ((ptsFrom P 0 l).flatMap ptCells ++ (ptsFrom Q 0 k).flatMap ptCells) ∧ Below w.heap.size w w' := by
  obtain ⟨i0, hi, hz0, hz1, hz2⟩ := info_parts infoTy
  have hsb := block_of_cell h0
  have hn1 : ¬ (((l.length + k.length : Nat) : Int) < 0) := by omega
  have hn0 : ¬ ((l.length : Int) < 0) := by omega
  have HGR := Lib.hid (fun W => growT_nil (l.length + k.length) (by omega) W)
  have HP := Lib.hid (fun W (hBW : Below w.heap.size w W) => pts_at (hT.below hBW))
  have HQ := Lib.hid (fun W (hBW : Below w.heap.size w W) => pts_at (hU.below hBW))
  have HA := Lib.hid hA; have HB := Lib.hid hB
  have HL := Lib.hid hl; have HK := Lib.hid hk
  have HLP : Hid (((ptsFrom P 0 l).flatMap ptCells).length = l.length * 3) := by rw [Hid, ptFlat_len, ptsFrom_len]
  have HLQ : Hid (((ptsFrom Q 0 k).flatMap ptCells).length = k.length * 3) := by rw [Hid, ptFlat_len, ptsFrom_len]
  have HOP := Lib.hid (ptFlat_one (ptsFrom P 0 l)); have HOQ := Lib.hid (ptFlat_one (ptsFrom Q 0 k))
  clear hT hU hA hB hl hk
  generalize (ptsFrom P 0 l).flatMap ptCells = CP at *
  generalize (ptsFrom Q 0 k).flatMap ptCells = CQ at *
  generalize l.length = n at *
  generalize k.length = m at *
  have hw1 : wrap64 ((n : Int) + (m : Int)) = ((n + m : Nat) : Int) := by rw [← Int.natCast_add]; exact wrap_nat (Nat.le_trans (Nat.add_le_add HL.out HK.out) (by decide))
  have hw0 : wrap64 (n : Int) = (n : Int) := wrap_nat (Nat.le_trans HL.out (by decide))
  go_enter Tryz.func48, Tryz.ntmps48
  go_wp2
  refine wp_loop_rounds 3 ?_
  rw [rounds_succ]
  go_wp2
  rw [rounds_succ]
  go_wp2
  rw [rounds_succ]
  go_wp2_with (go_at_call 84; refine (HGR.out _).mono ?_; rintro e w2 ⟨A2, c2, rfl, hown2, hB2⟩; have g0 := keep_cell hB2 h0; have g1 := keep_cell hB2 h1; have HW2 := Lib.hid hown2)
  have hl : n ≤ 1000 := HL.out
  have hk : m ≤ 1000 := HK.out
  clear hw1 hw0
  refine wp_loop_rounds 3 ?_
  rw [rounds_succ]
  go_wp2_with (at_builtin; go_loud (refine wpList_append_any _ rfl _ _ 23 rfl w.heap.size 53 i0 (.agg #[.slice none 0 0, .bool false, .int .i64 0]) 3 40 Tryz.underlying23 hi hz0 hz1 hz2 rfl (by decide) _ _ _ rfl HW2.out A n c n (Nat.zero_add _) CP rfl HA.out HLP.out (HP.out _ hB2) HOP.out (by unfold maxLen; omega) (by omega) hB2.size ?_); intro A3 c3 w3 hown3 hgrow3; have hB3 := hB2.grown hgrow3 hB2.size (fun j e => own_low HW2.out e); have r0 : w3.cell? ⟨sb, 0, none⟩ = some (.slice A n c) := (hB3.cell (p := ⟨sb, 0, none⟩) hsb).trans h0; have r1 : w3.cell? ⟨sb, 1, none⟩ = some (.slice B m d) := (hB3.cell (p := ⟨sb, 1, none⟩) hsb).trans h1; have HW3 := Lib.hid hown3)
  rw [rounds_succ]
  go_wp2_with (at_builtin; go_loud (refine wpList_append_any _ rfl _ _ 23 rfl w.heap.size 53 i0 (.agg #[.slice none 0 0, .bool false, .int .i64 0]) 3 40 Tryz.underlying23 hi hz0 hz1 hz2 rfl (by decide) _ _ _ rfl HW3.out B m d (n + m) rfl CQ rfl HB.out HLQ.out (HQ.out _ hB3) HOQ.out (by unfold maxLen; omega) (by omega) hB3.size ?_); intro A4 c4 w4 hown4 hgrow4; have hB4 := hB3.grown hgrow4 hB3.size (fun j e => own_low HW3.out e))
  rw [rounds_succ]
  go_wp2
  go_ret
  rw [List.nil_append] at hown4
  exact ⟨A4, c4, rfl, hown4, hB4⟩
end Go.Proofs.YtepdlghobopdbaaGreatDoor

namespace Go.Proofs.YtepdlghobopdbaaGreatDoor
open Go.RowKit Go.Shelf

theorem below_of_none {W W' : World} (h : W.grownBy W' none) : Below W.heap.size W W' := ⟨h.os, h.tape, h.output, h.size, fun k hk => h.block k hk (by simp)⟩
set_option maxRecDepth 100000 in
set_option maxHeartbeats 4000000 in
theorem ownType_any (PA : Option Addr) (pc : Nat) (t : Ar.Ty) (w : World) (h5 : t.params.length ≤ 1000000) (hT : Bas w w.heap.size PA t.params) (hN : PA = none → pc = 0 ∧ t.params = []) :
    Calls Tryz.prog 50 #[tyV PA pc t] w fun e w' => ∃ A' c', e = .returned (tyV A' c' t) ∧ BasO w' w.heap.size A' t.params ∧ (A' = none → c' = 0 ∧ t.params = []) ∧ Below w.heap.size w w' := by
  obtain ⟨i0, hi, hz0, hz1, hz2⟩ := info_parts infoBase
  have hB0 := below_two (w := w) (tyO PA pc t) (.cells #[.slice none 0 0, .bool false, .int .i64 0] 53 (0, 0))
  have h1 := two_new1 w (tyO PA pc t) (.cells #[.slice none 0 0, .bool false, .int .i64 0] 53 (0, 0))
  have h2 := two_new2 w (tyO PA pc t) (.cells #[.slice none 0 0, .bool false, .int .i64 0] 53 (0, 0))
  have hTB := Lib.hid (fun W (hB : Below w.heap.size w W) => bsCells_at (hT.below hB))
  have HN : Hid (PA = none → pc = 0 ∧ t.params.length = 0) := fun e => by
    obtain ⟨h1, h2⟩ := hN e
    exact ⟨h1, by rw [h2]; rfl⟩
  have hsz0 : w.heap.size + 2 = ((w.alloc (tyO PA pc t)).alloc (.cells #[.slice none 0 0, .bool false, .int .i64 0] 53 (0, 0))).heap.size := by simp
  unfold tyV
  unfold tyO at h1 h2 hB0 hsz0
  obtain ⟨a0, a1, a2⟩ := cells3 h1
  obtain ⟨b0, b1, b2⟩ := cells3 h2
  have hS0 : CT w PA pc t ((w.alloc (.cells #[.slice PA t.params.length pc, .bool t.result.cell, .int .i64 t.result.n] 53 (0, 0))).alloc (.cells #[.slice none 0 0, .bool false, .int .i64 0] 53 (0, 0))).drew := ⟨hB0.drew, a0, a1, a2, cv_of b0, cv_of b1, cv_of b2, frz h2 0, frz h2 1, frz h2 2⟩
  have HS0 := Lib.hid hS0
  have HSZ := Lib.hid hsz0
  clear hS0 hsz0 a0 a1 a2 b0 b1 b2 h1 h2 hB0 hT hN
  go_enter Tryz.func50, Tryz.ntmps50
  go_wp2
  generalize ((w.alloc (.cells #[.slice PA t.params.length pc, .bool t.result.cell, .int .i64 t.result.n] 53 (0, 0))).alloc (.cells #[.slice none 0 0, .bool false, .int .i64 0] 53 (0, 0))) = W0 at *
  go_region_held3 (fun w' => Below w.heap.size w w' ∧ w'.cell? ⟨w.heap.size, 0, none⟩ = some (.slice PA t.params.length pc) ∧ w'.cell? ⟨w.heap.size, 1, none⟩ = some (.bool t.result.cell) ∧ w'.cell? ⟨w.heap.size, 2, none⟩ = some (.int .i64 t.result.n) ∧
      w'.cell? ⟨w.heap.size + 1, 0, none⟩ = some (cv ⟨w.heap.size + 1, 0, none⟩ w') ∧ w'.cell? ⟨w.heap.size + 1, 1, none⟩ = some (cv ⟨w.heap.size + 1, 1, none⟩ w') ∧ w'.cell? ⟨w.heap.size + 1, 2, none⟩ = some (cv ⟨w.heap.size + 1, 2, none⟩ w') ∧ w'.frozen? ⟨w.heap.size + 1, 0, none⟩ = false ∧ w'.frozen? ⟨w.heap.size + 1, 1, none⟩ = false ∧ w'.frozen? ⟨w.heap.size + 1, 2, none⟩ = false)
    (first
      | exact HS0.out
      | assumption
      | exact CT.set (by assumption)
      | go_keep)
    ((refine step_append_any _ (by rfl) _ _ _ (by rfl) (w.heap.size + 2) 25 i0 _ 2 16 Tryz.underlying51 hi hz0 hz1 hz2 rfl (by omega) (.slice none 0 0) 0 [] (by rfl) (World.ownsRow_nil _ _ _ _) PA t.params.length pc t.params.length (Nat.zero_add _) (t.params.flatMap bsCells) (by rfl) HN.out (bsCells_len _) (hTB.out _ (SI_below (by assumption))) (bsCells_one _) (by unfold maxLen; omega) (by omega) (Nat.le_of_eq HSZ.out) ?_; intro A9 c9 w9 hown9 hgrow; have hS9 : CT w PA pc t w9 := CT.next (by assumption) (below_of_none hgrow)))
  all_goals go_wp2
  all_goals
    obtain ⟨hB9, -, -, -, r0, r1, r2, -, -, -⟩ := hS9
    rw [List.nil_append] at hown9
    have hOW := own_set (j := 2) (u := .int .i64 t.result.n) (own_set (j := 1) (u := .bool t.result.cell) (own_set (j := 0) (u := .slice A9 t.params.length c9) hown9 (show w.heap.size + 1 < w.heap.size + 2 by omega)) (show w.heap.size + 1 < w.heap.size + 2 by omega)) (show w.heap.size + 1 < w.heap.size + 2 by omega)
    refine bodyPost_ret (v := .agg #[.slice A9 t.params.length c9, .bool t.result.cell, .int .i64 t.result.n]) (by simp [results, Tryz.results50, go_sem, World.cell?_setCell_same', r0, r1, r2]) rfl ⟨A9, c9, rfl, (basO_of_own hOW).mono (by omega), nilB_of_own hOW rfl, ?_⟩
    exact ((hB9.setCell (p := ⟨w.heap.size + 1, 0, none⟩) (by simp) _).setCell (p := ⟨w.heap.size + 1, 1, none⟩) (by simp) _).setCell (p := ⟨w.heap.size + 1, 2, none⟩) (by simp) _

set_option maxRecDepth 100000 in
set_option maxHeartbeats 4000000 in
theorem eachOwn_any (l : List Ar.Ty) (A : Option Addr) (P : Nat → Option Addr × Nat) (c : Nat) (w : World) (hT : Tys w w.heap.size A P l) (h5 : ∀ t ∈ l, t.params.length ≤ 1000000) (hN : ∀ i t, l[i]? = some t → (P i).1 = none → (P i).2 = 0 ∧ t.params = []) (hL : l.length ≤ 1000000) :
    Calls Tryz.prog 49 #[.slice A l.length c, .func (.func 50) #[] #[]] w fun e w' => ∃ (A' : Option Addr) (c' : Nat) (L : List Pt), e = .returned (.slice A' l.length c') ∧ L.map Prod.fst = l ∧ w'.ownsRow w.heap.size 53 3 (.slice A' l.length c') L.length (L.flatMap ptCells) ∧ (∀ x ∈ L, PtO w' w.heap.size x) ∧ Below w.heap.size w w' := by
  obtain ⟨i0, hi, hz0, hz1, hz2⟩ := info_parts infoTy
  have HT := Lib.hid hT
  have HP := Lib.hid (fun (x : Ar.Ty) (k : Nat) => fun (hx : l[k]? = some x) (W : World) (hB : Below w.heap.size w W) => ownType_any (P k).1 (P k).2 x W (h5 x (List.mem_of_getElem? hx)) (((tys_bas hT hx).below hB).mono hB.size) (hN k x hx))
  clear hT h5 hN
  go_enter Tryz.func49, Tryz.ntmps49
  go_wp2
  go_loopw [5, 10] (fun v i wr => ∃ (k : Nat) (L : List Pt), k ≤ l.length ∧ i = .int .i64 k ∧ Hid (L.map Prod.fst = l.take k) ∧ Hid (L.length = k) ∧ Hid (wr.ownsRow w.heap.size 53 3 v k (L.flatMap ptCells)) ∧ Hid (∀ x ∈ L, PtO wr w.heap.size x) ∧ Below w.heap.size w wr) (fun _ i _ => l.length - (intOf i).toNat)
  case atStart => exact ⟨0, [], Nat.zero_le _, rfl, rfl, rfl, World.ownsRow_nil _ _ _ _, (fun x hx => by cases hx), Below.refl _ _⟩
  case round =>
    obtain ⟨k, L, hk, rfl, hLm, hLk, hrow, hpt, hB⟩ := hrel
    by_cases hlt : k < l.length
    · obtain ⟨x, hx⟩ : ∃ x, l[k]? = some x := ⟨_, List.getElem?_eq_getElem hlt⟩
      obtain ⟨b, off, hA, hbB, hc⟩ := (HT.out.below hB) (by intro e; rw [e] at hlt; simp at hlt)
      obtain ⟨c0, c1, c2, yb⟩ := hc k x hx
      have HX := Lib.hid hx
      have hq0 := block_of_cell c0
      clear hx hc
      subst hA
      have hAl : Below wr.heap.size wr (wr.alloc (.cells #[.slice (P k).1 x.params.length (P k).2, .bool x.result.cell, .int .i64 x.result.n] 53 (0, 0))) := (Below.refl _ _).alloc (Nat.le_refl _) _
      have hBa := hB.alloc hB.size (.cells #[.slice (P k).1 x.params.length (P k).2, .bool x.result.cell, .int .i64 x.result.n] 53 (0, 0))
      have hcall := HP.out x k HX.out _ hBa
      clear yb
      unfold tyV at hcall
      generalize (P k).1 = PA at *
      generalize (P k).2 = pc at *
      obtain ⟨ao, cap, hv⟩ := own_form hrow.out
      subst hv
      have HR1 := Lib.hid (own_ext hrow.out (Ext.of_below hAl (Nat.le_refl _)))
      have HAL := Lib.hid hAl
      have HC := Lib.hid hcall
      have hsz := hB.size
      clear hcall hrow hAl
      go_wp2_with (first
        | (at_builtin; refine wpList_append_own_at _ rfl _ _ 23 rfl w.heap.size 53 i0 _ 3 40 Tryz.underlying23 hi hz0 hz1 hz2 rfl (by decide) _ _ _ rfl (HR2.out.alloc _) ⟨w2.heap.size, 0, none⟩ 1 1 (ptCells (x, (A', c'))) rfl rfl (fun j u hu => World.news_of_block (cs := (ptCells (x, (A', c'))).toArray) (t := 53) (fr := (0, 0)) (World.alloc_heap_new w2 _) j u hu) (ptCells_one _) (by unfold maxLen; omega) (by omega) (by simp; omega) ?_; intro v' w3 hown' hgrow _ hat; have hBg := (hBw2.alloc hBw2.size (.cells (ptCells (x, (A', c'))).toArray 53)).grown hgrow (by simp; omega) (fun j e => own_low HR2.out e); have HGR := Lib.hid hgrow)
        | (go_at_call 50; refine HC.out.mono ?_; rintro e w2 ⟨A', c', rfl, hbo, hnl, hB2⟩; have hBw2 := hBa.trans (hB2.mono hBa.size); have HR2 := Lib.hid (own_ext HR1.out (Ext.of_below hB2 (Nat.le_refl _))); obtain ⟨e0, e1⟩ := And.intro hBw2.size hB2.size))
      go_roundw
      case rel =>
        have kb1 : KB w.heap.size w2 w3 := (KB.below ((Below.refl _ _).alloc (Nat.le_refl _) _)).trans (KB.grown (HR2.out.alloc (.cells (ptCells (x, (A', c'))).toArray 53 (0, 0))) HGR.out (by decide))
        have kb : KB w.heap.size wr w3 := ((KB.below HAL.out).trans (KB.below hB2)).trans kb1
        refine ⟨k + 1, L ++ [(x, (A', c'))], by omega, by go_num, ?_, ?_, ?_, ?_, hBg⟩
        · rw [Hid, List.map_append, hLm.out, List.take_succ_eq_append_getElem hlt, show l[k] = x by have := HX.out; rw [List.getElem?_eq_getElem hlt] at this; exact Option.some.inj this]; rfl
        · rw [Hid, List.length_append, hLk.out]; rfl
        · rw [Hid, List.flatMap_append, List.flatMap_singleton]
          exact hown'
        · intro y hy
          rcases List.mem_append.1 hy with hy | hy
          · exact (hpt.out y hy).keep kb
          · obtain rfl := List.mem_singleton.1 hy
            exact ⟨(hbo.mono (by simp; omega)).keep kb1, hnl⟩
      case measure => simp [intOf]; omega
    · obtain rfl : k = l.length := by omega
      have hLL := hLm.out
      rw [List.take_length] at hLL
      have HLL := Lib.hid hLL
      obtain ⟨ao, cap, hv⟩ := own_form hrow.out
      subst hv
      clear hLL hLm
      go_wp2
      go_ret
      exact ⟨ao, cap, L, rfl, HLL.out, by rw [hLk.out]; exact hrow.out, hpt.out, hB⟩
end Go.Proofs.YtepdlghobopdbaaGreatDoor

namespace Go.Proofs.YtepdlghobopdbaaGreatDoor
open Go.RowKit Go.Shelf

namespace Ar
def addOf (a : Are) (l : List Ty) : Are := ⟨a.ids ++ l, a.root, a.jumps⟩
def addErr (a : Are) (l : List Ty) : Nat := if checkOf a = 0 then checkOf (addOf a l) else checkOf a
def addRes (a : Are) (l : List Ty) : Are := if addErr a l = 0 then addOf a l else noAre
end Ar
theorem arM_of_row {W : World} {n₀ c k : Nat} {A : Option Addr} {L : List Pt} {a : Ar.Are} (hL : L.map Prod.fst = a.ids) (hrow : W.ownsRow n₀ 53 3 (.slice A k c) L.length (L.flatMap ptCells)) (hp : ∀ x ∈ L, Bas W W.heap.size x.2.1 x.1.params)
    (h1 : a.ids.length ≤ 1000000) (h2 : ∀ t ∈ a.ids, t.params.length ≤ 1000000) : ArM W A (ptP L) a := by
  have hlen : L.length = a.ids.length := by rw [← hL, List.length_map]
  have hg : ∀ i t, a.ids[i]? = some t → ∃ x : Pt, L[i]? = some x ∧ x.1 = t := fun i t h => by
    rw [← hL, List.getElem?_map] at h
    exact Option.map_eq_some_iff.1 h
  refine ⟨h1, h2, fun hne => ?_⟩
  have hn : 0 < L.length := by rw [hlen]; exact List.length_pos_iff.2 hne
  rcases hrow.2 with ⟨_, h0⟩ | ⟨g, cap, cur, hv, hb, hg', _, _, _, hx⟩
  · omega
  · cases hv
    refine ⟨g, 0, rfl, lt_of_heap hg', fun i t ht => ?_⟩
    obtain ⟨x, hx', rfl⟩ := hg i t ht
    rw [ptP_get hx']
    have hi := (List.getElem?_eq_some_iff.1 hx').1
    have hc : ∀ j, j < 3 → W.cell? ⟨g, 0 + i * 3 + j, none⟩ = (ptCells x)[j]? := fun j hj => by
      have hf := flat_get (f := ptCells) (s := 3) ptCells_len L i x hx' j hj
      rw [← hx, List.getElem?_take_of_lt (by omega)] at hf
      rw [← hf, Nat.zero_add]
      simp [World.cell?, hg']
    exact ⟨hc 0 (by omega), hc 1 (by omega), hc 2 (by omega), hp x (List.mem_of_getElem? hx')⟩
/-- Where the types of two lists lie. -/
def pts2 (P Q : Nat → Option Addr × Nat) (l k : List Ar.Ty) : List Pt := ptsFrom P 0 l ++ ptsFrom Q 0 k
theorem pts2_fst (P Q : Nat → Option Addr × Nat) (l k : List Ar.Ty) : (pts2 P Q l k).map Prod.fst = l ++ k := by
  unfold pts2
  rw [List.map_append, ptsFrom_fst, ptsFrom_fst]
theorem pts2_len (P Q : Nat → Option Addr × Nat) (l k : List Ar.Ty) : (pts2 P Q l k).length = l.length + k.length := by
  unfold pts2
  rw [List.length_append, ptsFrom_len, ptsFrom_len]
theorem ptsFrom_mem {P : Nat → Option Addr × Nat} {l : List Ar.Ty} {x : Pt} (h : x ∈ ptsFrom P 0 l) : ∃ i t, l[i]? = some t ∧ x = (t, P i) := by
  obtain ⟨i, hi⟩ := List.getElem?_of_mem h
  obtain ⟨t, h1, h2⟩ := ptsFrom_get P l 0 i x hi
  exact ⟨i, t, h1, by rw [h2, Nat.zero_add]⟩
theorem pts2_bas {w W : World} {A B : Option Addr} {P Q : Nat → Option Addr × Nat} {l k : List Ar.Ty} (hT : Tys w w.heap.size A P l) (hU : Tys w w.heap.size B Q k) (hBW : Below w.heap.size w W) : ∀ x ∈ pts2 P Q l k, Bas W W.heap.size x.2.1 x.1.params := fun x hx => by
  rcases List.mem_append.1 hx with hx | hx
  · obtain ⟨i, t, h1, rfl⟩ := ptsFrom_mem hx
    exact ((tys_bas hT h1).below hBW).mono hBW.size
  · obtain ⟨i, t, h1, rfl⟩ := ptsFrom_mem hx
    exact ((tys_bas hU h1).below hBW).mono hBW.size
theorem pts2_nil {P Q : Nat → Option Addr × Nat} {l k : List Ar.Ty} (hP : ∀ i t, l[i]? = some t → (P i).1 = none → (P i).2 = 0 ∧ t.params = []) (hQ : ∀ i t, k[i]? = some t → (Q i).1 = none → (Q i).2 = 0 ∧ t.params = []) :
    ∀ i t, (l ++ k)[i]? = some t → (ptP (pts2 P Q l k) i).1 = none → (ptP (pts2 P Q l k) i).2 = 0 ∧ t.params = [] := fun i t ht => by
  have ht' := ht
  rw [← pts2_fst P Q l k, List.getElem?_map] at ht'
  obtain ⟨x, hx, rfl⟩ := Option.map_eq_some_iff.1 ht'
  rw [ptP_get hx]
  rcases List.mem_append.1 (List.mem_of_getElem? hx) with hm | hm
  · obtain ⟨j, t, h1, rfl⟩ := ptsFrom_mem hm
    exact hP j t h1
  · obtain ⟨j, t, h1, rfl⟩ := ptsFrom_mem hm
    exact hQ j t h1

/-- The blocks of a call of Add: the arena, what is returned. -/
structure AD (w : World) (a : Ar.Are) (A : Option Addr) (n c : Nat) (W : World) : Prop where
  below : Below w.heap.size w W
  arg : W.heap[w.heap.size]? = some (.cells #[.slice A n c, .bool a.root.cell, .int .i64 a.root.n, .bool a.jumps] 27 (0, 0))
  res : W.heap[w.heap.size + 1]? = some (.cells #[.slice none 0 0, .bool false, .int .i64 0, .bool false] 27 (0, 0))
theorem AD.next {w : World} {a : Ar.Are} {A : Option Addr} {n c : Nat} {W W' : World} (h : AD w a A n c W) (hB : Below W.heap.size W W') : AD w a A n c W' :=
  ⟨h.below.trans (hB.mono h.below.size), (hB.block _ (lt_of_heap h.arg)).trans h.arg, (hB.block _ (lt_of_heap h.res)).trans h.res⟩
theorem AD.first (w : World) (a : Ar.Are) (A : Option Addr) (n c : Nat) : AD w a A n c ((w.alloc (.cells #[.slice A n c, .bool a.root.cell, .int .i64 a.root.n, .bool a.jumps] 27 (0, 0))).alloc (.cells #[.slice none 0 0, .bool false, .int .i64 0, .bool false] 27 (0, 0))) :=
  ⟨below_two _ _, two_new1 _ _ _, two_new2 _ _ _⟩
/-- The arena's list is another one now. -/
theorem AD.set {w : World} {a : Ar.Are} {A A' : Option Addr} {n c n' c' : Nat} {W : World} (h : AD w a A n c W) : AD w a A' n' c' (W.setCell ⟨w.heap.size, 0, none⟩ (.slice A' n' c')) :=
  ⟨h.below.setCell (p := ⟨w.heap.size, 0, none⟩) (Nat.le_refl _) _, set_block h.arg, (Below.heap_setCell _ _ _ _ (by simp)).trans h.res⟩
theorem noAre_w (W : World) (A : Option Addr) (P : Nat → Option Addr × Nat) : ArM W A P Ar.noAre := ⟨Nat.zero_le _, (fun t ht => by simp [Ar.noAre] at ht), fun h => absurd rfl h⟩

set_option maxRecDepth 100000 in
set_option maxHeartbeats 8000000 in
theorem add_any (a : Ar.Are) (l : List Ar.Ty) (A B : Option Addr) (c d : Nat) (P Q : Nat → Option Addr × Nat) (w : World) (hA : ArM w A P a) (hU : Tys w w.heap.size B Q l) (hAn : A = none → c = 0 ∧ a.ids.length = 0) (hBn : B = none → d = 0 ∧ l.length = 0)
    (hPn : ∀ i t, a.ids[i]? = some t → (P i).1 = none → (P i).2 = 0 ∧ t.params = []) (hQn : ∀ i t, l[i]? = some t → (Q i).1 = none → (Q i).2 = 0 ∧ t.params = []) (h1 : a.ids.length ≤ 1000) (h2 : l.length ≤ 1000) (h3 : ∀ t ∈ l, t.params.length ≤ 1000000) :
    Calls Tryz.prog 18 #[.agg #[.slice A a.ids.length c, .bool a.root.cell, .int .i64 a.root.n, .bool a.jumps], .slice B l.length d] w fun e w' => ∃ A' c' P', e = .returned (.tuple #[.agg #[.slice A' (Ar.addRes a l).ids.length c', .bool (Ar.addRes a l).root.cell, .int .i64 (Ar.addRes a l).root.n, .bool (Ar.addRes a l).jumps], .int .i64 (Ar.addErr a l : Int)]) ∧ ArM w' A' P' (Ar.addRes a l) ∧ Below w.heap.size w w' := by
  have HF := Lib.hid (AD.first w a A a.ids.length c)
  obtain ⟨e0, e1, e2, e3, -, -, -, -⟩ := cells4 HF.out.arg
  have HC := Lib.hid (fun W (hB : Below w.heap.size w W) => show Calls Tryz.prog 21 #[.agg #[.slice A a.ids.length c, .bool a.root.cell, .int .i64 a.root.n, .bool a.jumps]] W fun e w' => e = .returned (.int .i64 (Ar.checkOf a : Int)) ∧ Below W.heap.size W w' from check_any a A c P W (hA.below hB))
  by_cases hk : Ar.checkOf a = 0
  · have hal : (Ar.addOf a l).ids.length = a.ids.length + l.length := List.length_append
    have hpar : ∀ t ∈ (Ar.addOf a l).ids, t.params.length ≤ 1000000 := fun t ht => by
      rcases List.mem_append.1 ht with ht | ht
      · exact hA.par t ht
      · exact h3 t ht
    have hlen : (Ar.addOf a l).ids.length ≤ 1000000 := by rw [hal]; omega
    have HCC := Lib.hid (fun (W : World) (sb : Nat) (hB : Below w.heap.size w W) => concat_any a.ids l A B c d P Q sb W h1 h2 ((hA.tys.below hB).mono hB.size) ((hU.below hB).mono hB.size) hAn hBn)
    have HAM := Lib.hid (fun (W : World) (base : Nat) (A' : Option Addr) (c' : Nat) (hB : Below w.heap.size w W) (hrow : W.ownsRow base 53 3 (.slice A' (a.ids.length + l.length) c') (a.ids.length + l.length) ((ptsFrom P 0 a.ids).flatMap ptCells ++ (ptsFrom Q 0 l).flatMap ptCells)) =>
      arM_of_row (a := Ar.addOf a l) (pts2_fst P Q a.ids l) (by rw [pts2_len]; unfold pts2; rw [List.flatMap_append]; exact hrow) (pts2_bas hA.tys hU hB) hlen hpar)
    have HCK := Lib.hid (fun (W : World) (A' : Option Addr) (c' : Nat) (P' : Nat → Option Addr × Nat) (h : ArM W A' P' (Ar.addOf a l)) => show Calls Tryz.prog 21 #[.agg #[.slice A' (Ar.addOf a l).ids.length c', .bool a.root.cell, .int .i64 a.root.n, .bool a.jumps]] W fun e w' => e = .returned (.int .i64 (Ar.checkOf (Ar.addOf a l) : Int)) ∧ Below W.heap.size W w' from check_any (Ar.addOf a l) A' c' P' W h)
    have HEO := Lib.hid (fun (W : World) (A' : Option Addr) (c' : Nat) (h : ArM W A' (ptP (pts2 P Q a.ids l)) (Ar.addOf a l)) => eachOwn_any (Ar.addOf a l).ids A' (ptP (pts2 P Q a.ids l)) c' W h.tys hpar (pts2_nil hPn hQn) hlen)
    rw [hal] at HCK HEO
    rw [hk] at HC
    by_cases hk2 : Ar.checkOf (Ar.addOf a l) = 0
    · have he : Ar.addErr a l = 0 := by unfold Ar.addErr; rw [if_pos hk]; exact hk2
      have hr : Ar.addRes a l = Ar.addOf a l := by unfold Ar.addRes; rw [if_pos he]
      rw [he, hr, hal]
      rw [hk2] at HCK
      have HPA := Lib.hid hpar; have HLE := Lib.hid hlen
      clear hA hU hAn hBn hPn hQn h1 h2 h3 hk hk2 he hr hpar hlen
      go_enter Tryz.func18, Tryz.ntmps18
      go_wp2_with (first
        | (go_at_call 49; refine (HEO.out _ A4 c4 hM5).mono ?_; rintro e w6 ⟨A6, c6, L6, rfl, hL6, hrow6, hpt6, hB6⟩; have hF6o := hF5.next hB6; obtain ⟨l0, l1, l2, l3, i1, i2, i3, i4⟩ := cells4 hF6o.arg; have hF6 := hF6o.set (A' := A6) (n' := a.ids.length + l.length) (c' := c6); obtain ⟨t0, t1, t2, t3, -, -, -, -⟩ := cells4 hF6.arg; obtain ⟨u0, u1, u2, u3, k0, k1, k2, k3⟩ := cells4 hF6.res)
        | (go_at_call 21; have _t := hB4; refine (HCK.out _ A4 c4 _ hMX).mono ?_; rintro e w5 ⟨rfl, hB5⟩; have hF5 := hFX.next hB5; have hM5 := hMX.below hB5; obtain ⟨z0, z1, z2, z3, -, -, -, -⟩ := cells4 hF5.arg; obtain ⟨r0, r1, r2, r3, s0, s1, s2, s3⟩ := cells4 hF5.res)
        | (go_at_call 48; go_loud (refine (HCC.out _ w2.heap.size (hF2.below.alloc hF2.below.size (.cells #[.slice A a.ids.length c, .slice B l.length d] 23 (0, 0))) (cells2 (World.alloc_heap_new w2 (.cells #[.slice A a.ids.length c, .slice B l.length d] 23 (0, 0)))).1 (cells2 (World.alloc_heap_new w2 (.cells #[.slice A a.ids.length c, .slice B l.length d] 23 (0, 0)))).2.1).mono ?_); rintro e w4 ⟨A4, c4, rfl, hrow4, hB4⟩; have hF4 := (hF2.next ((Below.refl _ _).alloc (Nat.le_refl _) (.cells #[.slice A a.ids.length c, .slice B l.length d] 23 (0, 0)))).next hB4; obtain ⟨n0, n1, n2, n3, m0, m1, m2, m3⟩ := cells4 hF4.arg; have hFX := hF4.set (A' := A4) (n' := a.ids.length + l.length) (c' := c4); have hMX := HAM.out _ _ A4 c4 hFX.below (own_set (j := 0) (u := .slice A4 (a.ids.length + l.length) c4) hrow4 (show w.heap.size < (w2.alloc (.cells #[.slice A a.ids.length c, .slice B l.length d] 23 (0, 0))).heap.size by have := lt_of_heap hF2.res; rw [size_alloc]; omega)); obtain ⟨y0, y1, y2, y3, -, -, -, -⟩ := cells4 hFX.arg)
        | (go_at_call 21; refine (HC.out _ HF.out.below).mono ?_; rintro e w2 ⟨rfl, hB2⟩; have hF2 := HF.out.next hB2; obtain ⟨x0, x1, x2, x3, -, -, -, -⟩ := cells4 hF2.arg; obtain ⟨q0, q1, q2, q3, p0, p1, p2, p3⟩ := cells4 hF2.res))
      have g1 : w.heap.size + 1 < w5.heap.size := lt_of_heap hF5.res
      have g0 : w.heap.size < w5.heap.size := Nat.lt_of_succ_lt g1
      have hOW := own_set (j := 3) (u := .bool a.jumps) (own_set (j := 2) (u := .int .i64 a.root.n) (own_set (j := 1) (u := .bool a.root.cell) (own_set (j := 0) (u := .slice A6 (a.ids.length + l.length) c6) (own_set (j := 0) (u := .slice A6 (a.ids.length + l.length) c6) hrow6 g0) g1) g1) g1) g1
      have kb : KB w5.heap.size w6 (((((w6.setCell ⟨w.heap.size, 0, none⟩ (.slice A6 (a.ids.length + l.length) c6)).setCell ⟨w.heap.size + 1, 0, none⟩ (.slice A6 (a.ids.length + l.length) c6)).setCell ⟨w.heap.size + 1, 1, none⟩ (.bool a.root.cell)).setCell ⟨w.heap.size + 1, 2, none⟩ (.int .i64 a.root.n)).setCell ⟨w.heap.size + 1, 3, none⟩ (.bool a.jumps)) := (KB.set _ g0).trans ((KB.set _ g1).trans ((KB.set _ g1).trans ((KB.set _ g1).trans (KB.set _ g1))))
      have hfin := arO_of_row (a := Ar.addOf a l) hL6 hOW (fun x hx => (hpt6 x hx).keep kb) HLE.out HPA.out
      refine bodyPost_ret (v := .tuple #[.agg #[.slice A6 (a.ids.length + l.length) c6, .bool a.root.cell, .int .i64 a.root.n, .bool a.jumps], .int .i64 0]) (by simp [results, Tryz.results18, go_sem, World.cell?_setCell_same', u0, u1, u2, u3]) rfl ⟨A6, c6, ptP L6, rfl, hfin.m, ?_⟩
      iterate 4 (refine Below.setCell ?_ (by simp) _)
      exact hF6.below
    · have he : Ar.addErr a l = Ar.checkOf (Ar.addOf a l) := by unfold Ar.addErr; rw [if_pos hk]
      have hr : Ar.addRes a l = Ar.noAre := by unfold Ar.addRes; rw [if_neg (by rw [he]; exact hk2)]
      rw [he, hr]
      have hne : ((Ar.checkOf (Ar.addOf a l) : Int) != 0) = true := by rw [bne_iff_ne]; omega
      clear hA hU hAn hBn hPn hQn h1 h2 h3 hk hk2 he hr hpar hlen HEO
      generalize Ar.checkOf (Ar.addOf a l) = er at *
      go_enter Tryz.func18, Tryz.ntmps18
      go_wp2_with (first
        | (go_at_call 21; have _t := hB4; refine (HCK.out _ A4 c4 _ hMX).mono ?_; rintro e w5 ⟨rfl, hB5⟩; have hF5 := hFX.next hB5; have hM5 := hMX.below hB5; obtain ⟨z0, z1, z2, z3, -, -, -, -⟩ := cells4 hF5.arg; obtain ⟨r0, r1, r2, r3, s0, s1, s2, s3⟩ := cells4 hF5.res)
        | (go_at_call 48; refine (HCC.out _ w2.heap.size (hF2.below.alloc hF2.below.size (.cells #[.slice A a.ids.length c, .slice B l.length d] 23 (0, 0))) (cells2 (World.alloc_heap_new w2 (.cells #[.slice A a.ids.length c, .slice B l.length d] 23 (0, 0)))).1 (cells2 (World.alloc_heap_new w2 (.cells #[.slice A a.ids.length c, .slice B l.length d] 23 (0, 0)))).2.1).mono ?_; rintro e w4 ⟨A4, c4, rfl, hrow4, hB4⟩; have hF4 := (hF2.next ((Below.refl _ _).alloc (Nat.le_refl _) (.cells #[.slice A a.ids.length c, .slice B l.length d] 23 (0, 0)))).next hB4; obtain ⟨n0, n1, n2, n3, m0, m1, m2, m3⟩ := cells4 hF4.arg; have hFX := hF4.set (A' := A4) (n' := a.ids.length + l.length) (c' := c4); have hMX := HAM.out _ _ A4 c4 hFX.below (own_set (j := 0) (u := .slice A4 (a.ids.length + l.length) c4) hrow4 (show w.heap.size < (w2.alloc (.cells #[.slice A a.ids.length c, .slice B l.length d] 23 (0, 0))).heap.size by have := lt_of_heap hF2.res; rw [size_alloc]; omega)); obtain ⟨y0, y1, y2, y3, -, -, -, -⟩ := cells4 hFX.arg)
        | (go_at_call 21; refine (HC.out _ HF.out.below).mono ?_; rintro e w2 ⟨rfl, hB2⟩; have hF2 := HF.out.next hB2; obtain ⟨x0, x1, x2, x3, -, -, -, -⟩ := cells4 hF2.arg; obtain ⟨q0, q1, q2, q3, p0, p1, p2, p3⟩ := cells4 hF2.res))
      refine bodyPost_ret (v := .tuple #[.agg #[.slice none 0 0, .bool false, .int .i64 0, .bool false], .int .i64 (er : Int)]) (by simp [results, Tryz.results18, go_sem, World.cell?_setCell_same', r0, r1, r2, r3]) rfl ⟨none, 0, fun _ => (none, 0), rfl, noAre_w _ _ _, ?_⟩
      iterate 4 (refine Below.setCell ?_ (by simp) _)
      exact hF5.below
  · have he : Ar.addErr a l = Ar.checkOf a := by unfold Ar.addErr; rw [if_neg hk]
    have hr : Ar.addRes a l = Ar.noAre := by unfold Ar.addRes; rw [if_neg (by rw [he]; exact hk)]
    rw [he, hr]
    have hne : ((Ar.checkOf a : Int) != 0) = true := by rw [bne_iff_ne]; omega
    clear hA hU hAn hBn hPn hQn h1 h2 h3 hk he hr
    generalize Ar.checkOf a = er at *
    go_enter Tryz.func18, Tryz.ntmps18
    go_wp2_with (go_at_call 21; refine (HC.out _ HF.out.below).mono ?_; rintro e w2 ⟨rfl, hB2⟩; have hF2 := HF.out.next hB2; obtain ⟨x0, x1, x2, x3, -, -, -, -⟩ := cells4 hF2.arg; obtain ⟨q0, q1, q2, q3, p0, p1, p2, p3⟩ := cells4 hF2.res)
    refine bodyPost_ret (v := .tuple #[.agg #[.slice none 0 0, .bool false, .int .i64 0, .bool false], .int .i64 (er : Int)]) (by simp [results, Tryz.results18, go_sem, World.cell?_setCell_same', q0, q1, q2, q3]) rfl ⟨none, 0, fun _ => (none, 0), rfl, noAre_w _ _ _, ?_⟩
    iterate 4 (refine Below.setCell ?_ (by simp) _)
    exact hF2.below
end Go.Proofs.YtepdlghobopdbaaGreatDoor

namespace Go.Proofs.YtepdlghobopdbaaGreatDoor
open Go.RowKit Go.Shelf

set_option maxRecDepth 100000 in
set_option maxHeartbeats 8000000 in
theorem copyOwn_any (a : Ar.Are) (A : Option Addr) (c : Nat) (P : Nat → Option Addr × Nat) (w : World) (hA : ArM w A P a) (hN : ∀ i t, a.ids[i]? = some t → (P i).1 = none → (P i).2 = 0 ∧ t.params = []) :
    Calls Tryz.prog 25 #[arV A c a] w fun e w' => ∃ (A' : Option Addr) (c' : Nat) (L : List Pt), e = .returned (.agg #[.slice A' a.ids.length c', .bool a.root.cell, .int .i64 a.root.n, .bool a.jumps]) ∧ L.map Prod.fst = a.ids ∧ w'.ownsRow (w.heap.size + 3) 53 3 (.slice A' a.ids.length c') a.ids.length (L.flatMap ptCells) ∧ (∀ x ∈ L, PtO w' (w.heap.size + 3) x) ∧ Below w.heap.size w w' ∧ w.heap.size + 3 ≤ w'.heap.size := by
  obtain ⟨i0, hi, hz0, hz1, hz2⟩ := info_parts infoTy
  have hlen := hA.len
  have HPAR := Lib.hid hA.par
  have HT := Lib.hid hA.tys
  have HN := Lib.hid hN
  have hav : arV A c a = .agg #[.slice A a.ids.length c, .bool a.root.cell, .int .i64 a.root.n, .bool a.jumps] := rfl
  rw [hav]
  obtain ⟨hB0, h1, h2, h3, hs⟩ := three_blocks w (.cells #[.slice A a.ids.length c, .bool a.root.cell, .int .i64 a.root.n, .bool a.jumps] 27 (0, 0)) (.cells #[.slice none 0 0, .bool false, .int .i64 0, .bool false] 27 (0, 0)) (.cells #[.slice none 0 0, .bool a.root.cell, .int .i64 a.root.n, .bool a.jumps] 27 (0, 0))
  have H1 := Lib.hid h1; have H2 := Lib.hid h2; have H3 := Lib.hid h3; have HB0 := Lib.hid hB0; have HS := Lib.hid hs
  clear hA hN hav h1 h2 h3 hB0 hs
  go_enter Tryz.func25, Tryz.ntmps25
  go_wp2
  generalize ((w.alloc (.cells #[.slice A a.ids.length c, .bool a.root.cell, .int .i64 a.root.n, .bool a.jumps] 27 (0, 0))).alloc (.cells #[.slice none 0 0, .bool false, .int .i64 0, .bool false] 27 (0, 0))).alloc (.cells #[.slice none 0 0, .bool a.root.cell, .int .i64 a.root.n, .bool a.jumps] 27 (0, 0)) = W0 at *
  go_loopw [4] (fun i wr => ∃ (k : Nat) (L : List Pt) (A9 : Option Addr) (c9 : Nat), k ≤ a.ids.length ∧ i = .int .i64 k ∧ Hid (L.map Prod.fst = a.ids.take k) ∧ Hid (L.length = k) ∧ Hid (wr.ownsRow (w.heap.size + 3) 53 3 (.slice A9 k c9) k (L.flatMap ptCells)) ∧ Hid (∀ x ∈ L, PtO wr (w.heap.size + 3) x) ∧ Hid (Below w.heap.size w wr) ∧
      Hid (wr.heap[w.heap.size]? = some (.cells #[.slice A a.ids.length c, .bool a.root.cell, .int .i64 a.root.n, .bool a.jumps] 27 (0, 0))) ∧ Hid (wr.heap[w.heap.size + 1]? = some (.cells #[.slice none 0 0, .bool false, .int .i64 0, .bool false] 27 (0, 0))) ∧ Hid (wr.heap[w.heap.size + 1 + 1]? = some (.cells #[.slice A9 k c9, .bool a.root.cell, .int .i64 a.root.n, .bool a.jumps] 27 (0, 0)))) (fun i _ => a.ids.length - (intOf i).toNat)
  case atStart => exact ⟨0, [], none, 0, Nat.zero_le _, rfl, rfl, rfl, World.ownsRow_nil _ _ _ _, (fun x hx => by cases hx), HB0.out, H1.out, H2.out, H3.out⟩
  case round =>
    obtain ⟨k, L, A9, c9, hk, rfl, hL, hLk, hrow, hpt, hB, hb1, hb2, hb3⟩ := hrel
    obtain ⟨e0, e1, e2, e3, -⟩ := cells4 hb1.out
    by_cases hlt : k < a.ids.length
    · obtain ⟨t, ht⟩ : ∃ t, a.ids[k]? = some t := ⟨_, List.getElem?_eq_getElem hlt⟩
      obtain ⟨b, off, hA, hbB, hc⟩ := HT.out (by intro e; rw [e] at hlt; simp at hlt)
      obtain ⟨c0', c1', c2', hbas⟩ := hc k t ht
      have c0 := (hB.out.cell (p := ⟨b, off + k * 3, none⟩) hbB).trans c0'
      have c1 := (hB.out.cell (p := ⟨b, off + k * 3 + 1, none⟩) hbB).trans c1'
      have c2 := (hB.out.cell (p := ⟨b, off + k * 3 + 2, none⟩) hbB).trans c2'
      have ht5 := HPAR.out t (List.mem_of_getElem? ht)
      have hnil := HN.out k t ht
      have HTT := Lib.hid ht
      generalize (P k).1 = PA at *
      generalize (P k).2 = pc at *
      have HC := Lib.hid (fun W (hBW : Below w.heap.size w W) => copyType_any PA pc t W ht5 ((hbas.below hBW).mono hBW.size) hnil)
      obtain ⟨d0, d1, d2, d3, f0, -⟩ := cells4 hb3.out
      have hszr : w.heap.size + 3 ≤ wr.heap.size := by have := lt_of_heap hb3.out; omega
      have HSZ := Lib.hid hszr
      have n1 : b ≠ w.heap.size + 1 + 1 := by omega
      clear hc hbas ht hnil c0' c1' c2' hszr
      subst hA
      unfold tyV at HC
      have hq0 : (0 : Int) ≤ (k : Int) := by omega
      have hq1 : (k : Int) < (a.ids.length : Int) := by omega
      go_wp2
      go_region_law (first
          | (go_simp; go_at_call 62; refine (HC.out _ hB.out.drew).mono ?_; rintro e w4 ⟨A', c', rfl, hbo, hnl, hB4⟩; have hr4 := Lib.hid (own_ext (A := wr.drew) hrow.out (Ext.of_below hB4 (Nat.le_refl _))); have hbo4 := Lib.hid hbo; have hnl4 := Lib.hid hnl; clear hbo hnl; have hk3 := Lib.hid ((hB4.block _ (lt_of_heap hb3.out)).trans hb3.out); obtain ⟨x0, x1, x2, x3, xf, -, -, -⟩ := cells4 hk3.out; have hk5 := Lib.hid ((Below.heap_alloc w4 (.cells #[.slice A' t.params.length c', .bool t.result.cell, .int .i64 t.result.n] 53 (0, 0)) _ (lt_of_heap hk3.out)).trans hk3.out); obtain ⟨v0, v1, v2, v3, vf, -, -, -⟩ := cells4 hk5.out)
          | (refine step_append_any _ (by rfl) _ _ _ (by rfl) (w.heap.size + 3) 53 i0 _ 3 40 Tryz.underlying23 hi hz0 hz1 hz2 rfl (by omega) (.slice A9 k c9) k (L.flatMap ptCells) (by rfl) (hr4.out.alloc _) (some ⟨w4.heap.size, 0, none⟩) 1 1 (k + 1) rfl (ptCells (t, (A', c'))) (by rfl) (fun h => by cases h) rfl (fun ad had j u hu => by cases had; exact World.news_of_block (cs := (ptCells (t, (A', c'))).toArray) (t := 53) (fr := (0, 0)) (World.alloc_heap_new w4 _) j u hu) (ptCells_one _) (by unfold maxLen; omega) (by omega) (Nat.le_trans HSZ.out (Nat.le_trans hB4.size (by rw [size_alloc]; exact Nat.le_succ _))) ?_; intro A8 c8 w9 hown9 hgrow; have hr5 := Lib.hid (hr4.out.alloc (.cells (ptCells (t, (A', c'))).toArray 53 (0, 0))); have hk9 := Lib.hid (grown_far hr5.out hgrow hk5.out (show w.heap.size + 1 + 1 < w.heap.size + 3 by omega)); obtain ⟨z0, z1, z2, z3, y0, -, -, -⟩ := cells4 hk9.out))
      all_goals go_wp2
      all_goals
        clear z0 z1 z2 z3 y0 x0 x1 x2 x3 xf v0 v1 v2 v3 vf d0 d1 d2 d3 f0 c0 c1 c2 e0 e1 e2 e3
        go_roundw
        case rel =>
          have n2 : w.heap.size + 1 + 1 < w.heap.size + 3 := by omega
          have kb : KB (w.heap.size + 3) wr.drew (w9.setCell ⟨w.heap.size + 1 + 1, 0, none⟩ (.slice A8 (k + 1) c8)) := ((KB.below hB4).trans (KB.below ((Below.refl _ _).alloc (Nat.le_refl _) _))).trans ((KB.grown hr5.out hgrow (by decide)).trans (KB.set _ n2))
          have far : ∀ (q : Nat) (o : Obj), q < w.heap.size + 2 → wr.heap[q]? = some o → (w9.setCell ⟨w.heap.size + 1 + 1, 0, none⟩ (.slice A8 (k + 1) c8)).heap[q]? = some o := fun q o hq ho => (Below.heap_setCell _ _ _ _ (by simp; omega)).trans (grown_far hr5.out hgrow ((Below.heap_alloc w4 _ _ (Nat.lt_of_lt_of_le (lt_of_heap ho) hB4.size)).trans ((hB4.block _ (lt_of_heap ho)).trans ho)) (by omega))
          have hsz4 : w.heap.size ≤ w4.heap.size := Nat.le_trans hB.out.size hB4.size
          refine ⟨k + 1, L ++ [(t, (A', c'))], A8, c8, by omega, by go_num, ?_, ?_, ?_, ?_, ?_, far _ _ (by omega) hb1.out, far _ _ (by omega) hb2.out, set_block hk9.out⟩
          · rw [Hid, List.map_append, hL.out, List.take_succ_eq_append_getElem hlt, show a.ids[k] = t by have := HTT.out; rw [List.getElem?_eq_getElem hlt] at this; exact Option.some.inj this]; rfl
          · rw [Hid, List.length_append, hLk.out]; rfl
          · rw [Hid, List.flatMap_append, List.flatMap_singleton]
            exact own_set hown9 n2
          · intro x hx
            rcases List.mem_append.1 hx with hx | hx
            · exact PtO.keep (W := wr.drew) (hpt.out x hx) kb
            · obtain rfl := List.mem_singleton.1 hx
              exact ⟨(hbo4.out.mono HSZ.out).keep (((KB.below ((Below.refl _ _).alloc (Nat.le_refl _) _))).trans ((KB.grown hr5.out hgrow (by decide)).trans (KB.set _ n2))), hnl4.out⟩
          · exact (((hB.out.drew.trans (hB4.mono hB.out.size)).alloc hsz4 _).grown hgrow (by rw [size_alloc]; exact Nat.le_succ_of_le hsz4) (fun j e => by have := own_low hr5.out e; omega)).setCell (p := ⟨w.heap.size + 1 + 1, 0, none⟩) (by simp; omega) _
        case measure => simp [intOf]; omega
    · obtain rfl : k = a.ids.length := by omega
      obtain ⟨d0, d1, d2, d3, -, -, -, -⟩ := cells4 hb3.out
      obtain ⟨r0, r1, r2, r3, s0, s1, s2, s3⟩ := cells4 hb2.out
      go_wp2
      have n3 : w.heap.size + 1 < w.heap.size + 3 := by omega
      have hOW := own_set (j := 3) (u := .bool a.jumps) (own_set (j := 2) (u := .int .i64 a.root.n) (own_set (j := 1) (u := .bool a.root.cell) (own_set (j := 0) (u := .slice A9 a.ids.length c9) hrow.out n3) n3) n3) n3
      have kb : KB (w.heap.size + 3) wr ((((wr.setCell ⟨w.heap.size + 1, 0, none⟩ (.slice A9 a.ids.length c9)).setCell ⟨w.heap.size + 1, 1, none⟩ (.bool a.root.cell)).setCell ⟨w.heap.size + 1, 2, none⟩ (.int .i64 a.root.n)).setCell ⟨w.heap.size + 1, 3, none⟩ (.bool a.jumps)) := (KB.set _ n3).trans ((KB.set _ n3).trans ((KB.set _ n3).trans (KB.set _ n3)))
      have hBB := (((hB.out.setCell (p := ⟨w.heap.size + 1, 0, none⟩) (by simp) (.slice A9 a.ids.length c9)).setCell (p := ⟨w.heap.size + 1, 1, none⟩) (by simp) (.bool a.root.cell)).setCell (p := ⟨w.heap.size + 1, 2, none⟩) (by simp) (.int .i64 a.root.n)).setCell (p := ⟨w.heap.size + 1, 3, none⟩) (by simp) (.bool a.jumps)
      have hLL : L.map Prod.fst = a.ids := by rw [hL.out, List.take_length]
      refine bodyPost_ret (v := .agg #[.slice A9 a.ids.length c9, .bool a.root.cell, .int .i64 a.root.n, .bool a.jumps]) (by simp [results, Tryz.results25, go_sem, World.cell?_setCell_same', r0, r1, r2, r3]) rfl ⟨A9, c9, L, rfl, hLL, hOW, fun x hx => (hpt.out x hx).keep kb, hBB, by have := lt_of_heap hb3.out; simp; omega⟩

/-- A block of another type than the row that has grown is as it was. -/
theorem grown_type {W W' : World} {base : Nat} {e t : TypeId} {size n : Nat} {v : Value} {xs : List Value} {b : Nat} {cs : Array Value} (hown : W.ownsRow base e size v n xs) (hg : W.grownBy W' v.ownBlock) (hb : W.heap[b]? = some (.cells cs t (0, 0))) (he : e ≠ t) : W'.heap[b]? = some (.cells cs t (0, 0)) := by
  refine (hg.block b (lt_of_heap hb) (fun e1 => ?_)).trans hb
  obtain ⟨cs', h'⟩ := own_block_cells hown e1.symm
  rw [h'] at hb
  simp only [Option.some.injEq, Obj.cells.injEq] at hb
  exact he hb.2.1
/-- A store into a block of another type leaves a row. -/
theorem own_set_type {W : World} {base : Nat} {e t : TypeId} {size : Nat} {v u : Value} {n b j : Nat} {xs : List Value} {cs : Array Value} (h : W.ownsRow base e size v n xs) (hb : W.heap[b]? = some (.cells cs t (0, 0))) (he : e ≠ t) : (W.setCell ⟨b, j, none⟩ u).ownsRow base e size v n xs := by
  refine ⟨h.1, ?_⟩
  rcases h.2 with hn | ⟨g, cap, cur, hv, hb2, hg, rest⟩
  · exact .inl hn
  · refine .inr ⟨g, cap, cur, hv, hb2, (Below.heap_setCell _ _ _ _ (fun e1 => ?_)).trans hg, rest⟩
    have e2 : g = b := e1
    subst e2
    rw [hg] at hb
    simp only [Option.some.injEq, Obj.cells.injEq] at hb
    exact he hb.2.1
theorem KB.set_type {n₀ : Nat} {W : World} {b j : Nat} {cs : Array Value} {t : TypeId} (v : Value) (hb : W.heap[b]? = some (.cells cs t (0, 0))) (he : 25 ≠ t) : KB n₀ W (W.setCell ⟨b, j, none⟩ v) := fun k cs' _ hk => (Below.heap_setCell _ _ _ _ (fun e1 => by
  have e2 : k = b := e1
  subst e2
  rw [hk] at hb
  simp only [Option.some.injEq, Obj.cells.injEq] at hb
  exact he hb.2.1)).trans hk
end Go.Proofs.YtepdlghobopdbaaGreatDoor
