/-
  WALKS: few; a copy of a list of splices.
-/
import Derived.Test.YtchkngabppmbkaaDoorLexV
import Derived.Test.YtchkngabppmbkaaDoorSpecK
import Derived.Laws.AppendOwnNone
namespace Go.Proofs.YtchkngabppmbkaaDoor
open Go.RowKit

set_option maxRecDepth 100000 in
set_option maxHeartbeats 2000000 in
theorem few_any (l : List Lx.Spl) (A : Option Addr) (c : Nat) (w : World) (hl : l.length ≤ 1152921504606846976) (ht : ∀ x ∈ l, x.text.size ≤ 281474976710656) (hS : Spls w w.heap.size A l) :
    Calls Tryd.prog 34 #[.slice A l.length c] w fun e w' => e = .returned (.bool (Lx.fewOf l)) ∧ w = w' := by
  obtain ⟨R, hR⟩ : ∃ R, Lx.fewOf l = R := ⟨_, rfl⟩
  rw [hR]
  have HR := Lib.hid hR; clear hR
  have HS := Lib.hid hS; have HT := Lib.hid ht; clear hS ht
  go_enter Tryd.func34, Tryd.ntmps34
  go_wp2
  go_loop [3, 4] (fun d i => ∃ (k n : Nat), k ≤ l.length ∧ i = .int .i64 k ∧ d = .int .i64 n ∧ n ≤ 3000 ∧ Hid (R = (Lx.fewFrom n (l.drop k) && decide (l.length ≤ 1000)))) (fun _ i => l.length - (intOf i).toNat)
  case atStart => exact ⟨0, 0, Nat.zero_le _, rfl, rfl, by omega, HR.out.symm⟩
  case round =>
    obtain ⟨k, n, hk, rfl, rfl, hn, hr⟩ := hrel
    by_cases hlt : k < l.length
    · obtain ⟨b, off, rfl, hbB, hc⟩ := HS.out (by intro e; subst e; simp at hlt)
      obtain ⟨x, hx⟩ : ∃ x, l[k]? = some x := ⟨_, List.getElem?_eq_getElem hlt⟩
      have hd := Lx.drop_of_get hx
      have htx := HT.out x (List.mem_of_getElem? hx)
      obtain ⟨h1, h2, h3⟩ := hc k x hx
      have hr' := hr.out
      rw [hd, Lx.fewFrom] at hr'
      clear hr hd hx hc
      by_cases hle : n + x.text.size ≤ 3000
      · rw [decide_eq_true hle, Bool.true_and] at hr'
        have HR2 := Lib.hid hr'; clear hr'
        go_wp2
        go_round
        case rel => exact ⟨k + 1, n + x.text.size, by omega, by go_num, by go_num, by omega, HR2.out⟩
        case measure => simp [intOf]; omega
      · rw [decide_eq_false hle, Bool.false_and, Bool.false_and] at hr'
        have HR2 := Lib.hid hr'; clear hr'
        go_wp2
        go_ret
        exact ⟨by rw [HR2.out]; rfl, rfl⟩
    · obtain rfl : k = l.length := by omega
      have hr' := hr.out
      rw [List.drop_length, Lx.fewFrom, Bool.true_and] at hr'
      have HR2 := Lib.hid hr'; clear hr hr'
      go_wp2
      go_ret
      exact ⟨ret_bool (by rw [HR2.out]; exact Bool.eq_iff_iff.2 (by simp only [decide_eq_true_eq]; omega)), rfl⟩

theorem splsCells_length (l : List Lx.Spl) : (splsCells l).length = l.length * 3 := by
  induction l with
  | nil => rfl
  | cons x l ih => simp [splsCells, splCells] at ih ⊢; omega
theorem splsCells_one (l : List Lx.Spl) : ∀ u ∈ splsCells l, u.oneCell' = true := by
  intro u hu
  obtain ⟨x, _, hx⟩ := List.mem_flatMap.1 hu
  simp only [splCells, List.mem_cons, List.not_mem_nil, or_false] at hx
  rcases hx with rfl | rfl | rfl <;> rfl
theorem splsCells_at {w : World} {B b off : Nat} : ∀ {l : List Lx.Spl}, SplsAt w B b off l → ∀ j u, (splsCells l)[j]? = some u → w.cell? ⟨b, off + j, none⟩ = some u
  | l, h, j, u, hu => by
    have hj : j < (splsCells l).length := (List.getElem?_eq_some_iff.1 hu).1
    rw [splsCells_length] at hj
    have hi : j / 3 < l.length := by omega
    obtain ⟨x, hx⟩ : ∃ x, l[j / 3]? = some x := ⟨_, List.getElem?_eq_getElem hi⟩
    obtain ⟨h1, h2, h3⟩ := h.2 _ x hx
    have hjj : j = j / 3 * 3 + j % 3 := by omega
    have hm : j % 3 = 0 ∨ j % 3 = 1 ∨ j % 3 = 2 := by omega
    rcases hm with hm | hm | hm
    · rw [hm] at hjj
      have := splsCells_get l _ x hx 0 _ rfl
      rw [hjj, this] at hu
      cases hu
      rw [hjj]; exact h1
    · rw [hm] at hjj
      have := splsCells_get l _ x hx 1 _ rfl
      rw [hjj, this] at hu
      cases hu
      rw [hjj]; exact h2
    · rw [hm] at hjj
      have := splsCells_get l _ x hx 2 _ rfl
      rw [hjj, this] at hu
      cases hu
      rw [hjj]; exact h3

set_option maxRecDepth 100000 in
/-- 'append([]api.Splice(nil), l...)': the same splices in new memory. -/
theorem wpList_clone_spls {w : World} {ops : Array Oper} {rest : List Oper} {o : Oper} {a : Act} {Q : Exit → Act → World → Prop} (hgd : o.guard = none) (s x : Operand)
    (ho : o.op = .call { callee := .builtin .append, args := #[s, x], argTypes := #[45, 45] }) (hs : a.eval s = .slice none 0 0) (A : Option Addr) (c : Nat) (l : List Lx.Spl) (hx : a.eval x = .slice A l.length c)
    (hS : Spls w w.heap.size A l) (hA : NilOk A c l.length) (hl : l.length ≤ 1000000)
    (h : ∀ A' c' w', Spls w' w'.heap.size A' l → NilOk A' c' l.length → Below w.heap.size w w' → wpList Tryd.prog ops Q rest (a.put o.dst (.slice A' l.length c')) w') :
    wpList Tryd.prog ops Q (o :: rest) a w := by
  obtain ⟨i0, hi, hz0, hz1, hz2⟩ := info_parts infoSpl
  cases A with
  | none =>
    obtain ⟨rfl, hl0⟩ := hA rfl
    rw [hl0] at hx
    refine wpList_append_own_none hgd s x _ ho w.heap.size 56 i0 3 Tryd.underlying45 hi (.slice none 0 0) 0 [] hs (World.ownsRow_nil _ _ _ _) hx ?_
    have := h none 0 w (fun hn => absurd (List.length_eq_zero_iff.1 hl0) hn) (fun _ => ⟨rfl, hl0⟩) (Below.refl _ _)
    rw [hl0] at this
    exact this
  | some ad =>
    have hcell : ∀ j u, (splsCells l)[j]? = some u → w.cell? (ad.add j) = some u := fun j u hu => by
      have hne : l ≠ [] := by intro e; subst e; simp [splsCells] at hu
      obtain ⟨b, off, hA, hat⟩ := hS hne
      cases hA
      rw [show (⟨b, off, none⟩ : Addr).add j = ⟨b, off + j, none⟩ by unfold Addr.add; split <;> simp_all]
      exact splsCells_at hat j u hu
    refine wpList_append_own_at w hgd s x _ ho w.heap.size 56 i0 (.agg #[.int .i64 0, .int .i64 0, .string ⟨#[]⟩]) 3 32 Tryd.underlying45 hi hz0 hz1 hz2 rfl (by decide) (.slice none 0 0) 0 [] hs (World.ownsRow_nil _ _ _ _)
      ad l.length c (splsCells l) hx (splsCells_length l) hcell (splsCells_one l) (by unfold maxLen; omega) (by omega) (Nat.le_refl _) ?_
    intro v' w' hown hg hn _
    obtain ⟨A', c', rfl⟩ := own_slice_form hown
    rw [Nat.zero_add, List.nil_append] at hown
    rw [Nat.zero_add]
    rw [Nat.zero_add] at hn
    exact h A' c' w' (spls_of_own hown rfl) (nilOk_of_own hown) ⟨hg.os, hg.tape, hg.output, hg.size, fun k hk => hg.block k hk (fun e => by cases e)⟩
end Go.Proofs.YtchkngabppmbkaaDoor
