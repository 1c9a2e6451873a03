/-
  WALKS: tokens but for their places; a copy of a list of tokens; which lists the statements look at.
-/
import Derived.Test.YtchkngabppmbkaaDoorLexN
import Derived.Test.YtchkngabppmbkaaDoorLexT
import Derived.Test.YtchkngabppmbkaaDoorLexY
import Derived.Test.YtchkngabppmbkaaDoorLexI
import Derived.Test.YtchkngabppmbkaaDoorSpecT
import Derived.Test.YtchkngabppmbkaaDoorSpecK
import Derived.BigQuiet
namespace Go.Proofs.YtchkngabppmbkaaDoor
open Go.RowKit

def tkCells (x : Lx.Tk) : List Value := [.int .u8 x.kind, .string x.text, .int .i64 x.pos]
def tksCells (l : List Lx.Tk) : List Value := l.flatMap tkCells
theorem tksCells_get : ∀ (L : List Lx.Tk) (k : Nat) (x : Lx.Tk), L[k]? = some x → ∀ (j : Nat) (u : Value), (tkCells x)[j]? = some u → (tksCells L)[k * 3 + j]? = some u
  | [], k, x, h => by simp at h
  | y :: ys, 0, x, h => fun j u hj => by
    simp only [List.getElem?_cons_zero, Option.some.injEq] at h
    subst h
    have : j < (tkCells y).length := (List.getElem?_eq_some_iff.1 hj).1
    rw [tksCells, List.flatMap_cons, Nat.zero_mul, Nat.zero_add, List.getElem?_append_left this]
    exact hj
  | y :: ys, k + 1, x, h => fun j u hj => by
    simp only [List.getElem?_cons_succ] at h
    rw [tksCells, List.flatMap_cons, List.getElem?_append_right (by simp [tkCells]; omega)]
    have := tksCells_get ys k x h j u hj
    rw [tksCells] at this
    rw [← this]; congr 1; simp [tkCells]; omega
theorem tks_of_own {w : World} {base : Nat} {ao : Option Addr} {n cap : Nat} {l : List Lx.Tk} (h : w.ownsRow base 63 3 (.slice ao n cap) n (tksCells l)) (hn : n = l.length) : Tks w w.heap.size ao l := by
  intro hne
  have hl : l.length ≠ 0 := fun e => hne (List.length_eq_zero_iff.1 e)
  obtain ⟨g, cap', hv, _, hg2, hcs⟩ := ownsRow_cells h (by omega)
  cases hv
  exact ⟨g, 0, rfl, hg2, fun i x hx => by
    rw [Nat.zero_add]
    exact ⟨hcs _ _ (tksCells_get l i x hx 0 _ rfl), hcs _ _ (tksCells_get l i x hx 1 _ rfl), hcs _ _ (tksCells_get l i x hx 2 _ rfl)⟩⟩

theorem tksCells_length (l : List Lx.Tk) : (tksCells l).length = l.length * 3 := by
  induction l with
  | nil => rfl
  | cons x l ih => simp [tksCells, tkCells] at ih ⊢; omega
theorem tksCells_one (l : List Lx.Tk) : ∀ u ∈ tksCells l, u.oneCell' = true := by
  intro u hu
  obtain ⟨x, _, hx⟩ := List.mem_flatMap.1 hu
  simp only [tkCells, List.mem_cons, List.not_mem_nil, or_false] at hx
  rcases hx with rfl | rfl | rfl <;> rfl
theorem tksCells_at {w : World} {B b off : Nat} : ∀ {l : List Lx.Tk}, TksAt w B b off l → ∀ j u, (tksCells l)[j]? = some u → w.cell? ⟨b, off + j, none⟩ = some u
  | l, h, j, u, hu => by
    have hj : j < (tksCells l).length := (List.getElem?_eq_some_iff.1 hu).1
    rw [tksCells_length] at hj
    have hi : j / 3 < l.length := by omega
    obtain ⟨x, hx⟩ : ∃ x, l[j / 3]? = some x := ⟨_, List.getElem?_eq_getElem hi⟩
    obtain ⟨h1, h2, h3⟩ := h.2 _ x hx
    have hjj : j = j / 3 * 3 + j % 3 := by omega
    have hm : j % 3 = 0 ∨ j % 3 = 1 ∨ j % 3 = 2 := by omega
    rcases hm with hm | hm | hm
    · rw [hm] at hjj
      have := tksCells_get l _ x hx 0 _ rfl
      rw [hjj, this] at hu
      cases hu
      rw [hjj]; exact h1
    · rw [hm] at hjj
      have := tksCells_get l _ x hx 1 _ rfl
      rw [hjj, this] at hu
      cases hu
      rw [hjj]; exact h2
    · rw [hm] at hjj
      have := tksCells_get l _ x hx 2 _ rfl
      rw [hjj, this] at hu
      cases hu
      rw [hjj]; exact h3

set_option maxRecDepth 100000 in
/-- 'append([]api.Token(nil), l...)': the same splices in new memory. -/
theorem wpList_clone_toks {w : World} {ops : Array Oper} {rest : List Oper} {o : Oper} {a : Act} {Q : Exit → Act → World → Prop} (hgd : o.guard = none) (s x : Operand)
    (ho : o.op = .call { callee := .builtin .append, args := #[s, x], argTypes := #[23, 23] }) (hs : a.eval s = .slice none 0 0) (A : Option Addr) (c : Nat) (l : List Lx.Tk) (hx : a.eval x = .slice A l.length c)
    (hS : Tks w w.heap.size A l) (hA : NilOk A c l.length) (hl : l.length ≤ 1000000)
    (h : ∀ A' c' w', Tks w' w'.heap.size A' l → NilOk A' c' l.length → Below w.heap.size w w' → wpList Tryd.prog ops Q rest (a.put o.dst (.slice A' l.length c')) w') :
    wpList Tryd.prog ops Q (o :: rest) a w := by
  obtain ⟨i0, hi, hz0, hz1, hz2⟩ := info_parts infoTok
  cases A with
  | none =>
    obtain ⟨rfl, hl0⟩ := hA rfl
    rw [hl0] at hx
    refine wpList_append_own_none hgd s x _ ho w.heap.size 63 i0 3 Tryd.underlying23 hi (.slice none 0 0) 0 [] hs (World.ownsRow_nil _ _ _ _) hx ?_
    have := h none 0 w (fun hn => absurd (List.length_eq_zero_iff.1 hl0) hn) (fun _ => ⟨rfl, hl0⟩) (Below.refl _ _)
    rw [hl0] at this
    exact this
  | some ad =>
    have hcell : ∀ j u, (tksCells l)[j]? = some u → w.cell? (ad.add j) = some u := fun j u hu => by
      have hne : l ≠ [] := by intro e; subst e; simp [tksCells] at hu
      obtain ⟨b, off, hA, hat⟩ := hS hne
      cases hA
      rw [show (⟨b, off, none⟩ : Addr).add j = ⟨b, off + j, none⟩ by unfold Addr.add; split <;> simp_all]
      exact tksCells_at hat j u hu
    refine wpList_append_own_at w hgd s x _ ho w.heap.size 63 i0 (.agg #[.int .u8 0, .string ⟨#[]⟩, .int .i64 0]) 3 32 Tryd.underlying23 hi hz0 hz1 hz2 rfl (by decide) (.slice none 0 0) 0 [] hs (World.ownsRow_nil _ _ _ _)
      ad l.length c (tksCells l) hx (tksCells_length l) hcell (tksCells_one l) (by unfold maxLen; omega) (by omega) (Nat.le_refl _) ?_
    intro v' w' hown hg hn _
    obtain ⟨A', c', rfl⟩ := own_slice_form hown
    rw [Nat.zero_add, List.nil_append] at hown
    rw [Nat.zero_add]
    rw [Nat.zero_add] at hn
    exact h A' c' w' (tks_of_own hown rfl) (nilOk_of_own hown) ⟨hg.os, hg.tape, hg.output, hg.size, fun k hk => hg.block k hk (fun e => by cases e)⟩

theorem str_neS (a b : ByteArray) : (a.toList != b.toList) = !decide (a = b) := by rw [bne, str_eq]
set_option maxRecDepth 100000 in
set_option maxHeartbeats 4000000 in
theorem sameBut_any (l m : List Lx.Tk) (A C : Option Addr) (c d : Nat) (w : World) (hl : l.length ≤ 1152921504606846976) (hm : m.length ≤ 1152921504606846976) (hA : Tks w w.heap.size A l) (hC : Tks w w.heap.size C m) :
    Calls Tryd.prog 48 #[.slice A l.length c, .slice C m.length d] w fun e w' => e = .returned (.bool (decide (l.map Lx.Tk.kt = m.map Lx.Tk.kt))) ∧ Below w.heap.size w w' := by
  have HA := Lib.hid hA
  have HC := Lib.hid hC
  clear hA hC
  by_cases hne : l.length = m.length
  · have hn2 : ((l.length : Int) != (m.length : Int)) = false := by rw [bne_eq_false_iff_eq]; omega
    obtain ⟨D, hD⟩ : ∃ D, decide (l.map Lx.Tk.kt = m.map Lx.Tk.kt) = D := ⟨_, rfl⟩
    rw [hD]
    have HD := Lib.hid hD
    have HN := Lib.hid hne
    clear hD hne
    go_enter Tryd.func48, Tryd.ntmps48
    go_wp2
    go_loopw [5] (fun i wr => ∃ (k : Nat), k ≤ l.length ∧ i = .int .i64 k ∧ Hid ((l.take k).map Lx.Tk.kt = (m.take k).map Lx.Tk.kt) ∧ Below w.heap.size w wr) (fun i _ => l.length - (intOf i).toNat)
    case atStart => exact ⟨0, Nat.zero_le _, rfl, rfl, Below.refl _ _⟩
    case round =>
      obtain ⟨k, hk, rfl, htk, hB⟩ := hrel
      by_cases hlt : k < l.length
      · have hltM : k < m.length := by have := HN.out; omega
        have hne1 : l ≠ [] := by intro e; subst e; simp at hlt
        have hne2 : m ≠ [] := by intro e; subst e; simp at hltM
        obtain ⟨b, off, hAe, hb, hc⟩ := HA.out.below hB hne1
        obtain ⟨b', off', hCe, hb', hc'⟩ := HC.out.below hB hne2
        cases hAe; cases hCe
        obtain ⟨x, hx⟩ : ∃ x, l[k]? = some x := ⟨_, List.getElem?_eq_getElem hlt⟩
        obtain ⟨y, hy⟩ : ∃ y, m[k]? = some y := ⟨_, List.getElem?_eq_getElem hltM⟩
        obtain ⟨x1, x2, x3⟩ := hc k x hx
        obtain ⟨y1, y2, y3⟩ := hc' k y hy
        have T1 : l.take (k + 1) = l.take k ++ [x] := by rw [List.take_add_one, hx]; rfl
        have T2 : m.take (k + 1) = m.take k ++ [y] := by rw [List.take_add_one, hy]; rfl
        have HX := Lib.hid hx; have HY := Lib.hid hy; have H1 := Lib.hid T1; have H2 := Lib.hid T2
        clear hc hc' hx hy T1 T2 hne1 hne2
        have hno : Hid (x.kt ≠ y.kt → D = false) := fun hxy => by
          rw [← HD.out, decide_eq_false_iff_not]
          intro e
          have e1 : (l.map Lx.Tk.kt)[k]? = (m.map Lx.Tk.kt)[k]? := by rw [e]
          rw [List.getElem?_map, List.getElem?_map, HX.out, HY.out] at e1
          exact hxy (Option.some.inj e1)
        have hst := str_eq x.text y.text
        by_cases hkd : x.kind = y.kind
        · have q1 : (x.kind != y.kind) = false := by rw [bne_eq_false_iff_eq]; exact hkd
          by_cases htx : x.text = y.text
          · rw [decide_eq_true htx] at hst
            have HK : Hid (x.kt = y.kt) := by rw [Hid, Lx.Tk.kt, Lx.Tk.kt, hkd, htx]
            clear hkd htx
            go_wp2
            go_quiet (fail)
            go_wp2
            go_roundw
            case rel => exact ⟨k + 1, by omega, by go_num, by rw [Hid, H1.out, H2.out, List.map_append, List.map_append, htk.out, List.map_singleton, List.map_singleton, HK.out], below_drewN hB _⟩
            case measure => simp [intOf]; omega
          · rw [decide_eq_false htx] at hst
            have HF := Lib.hid (hno.out (fun e => htx (congrArg Prod.snd e)))
            clear hkd htx
            go_wp2
            go_quiet (fail)
            go_wp2
            go_ret
            exact ⟨ret_bool (by rw [HF.out]), below_drewN hB _⟩
        · have q1 : (x.kind != y.kind) = true := by rw [bne_iff_ne]; exact hkd
          have HF := Lib.hid (hno.out (fun e => hkd (congrArg Prod.fst e)))
          clear hkd hst
          go_wp2
          go_quiet (fail)
          go_wp2
          go_ret
          exact ⟨ret_bool (by rw [HF.out]), below_drewN hB _⟩
      · obtain rfl : k = l.length := by omega
        have HF : Hid (D = true) := by
          have := htk.out
          rw [List.take_length, HN.out, List.take_length] at this
          rw [Hid, ← HD.out]; exact decide_eq_true this
        clear htk
        go_wp2
        go_ret
        exact ⟨ret_bool (by rw [HF.out]), hB⟩
  · have hd : decide (l.map Lx.Tk.kt = m.map Lx.Tk.kt) = false := by
      rw [decide_eq_false_iff_not]
      intro e
      have := congrArg List.length e
      rw [List.length_map, List.length_map] at this
      exact hne this
    have hn2 : ((l.length : Int) != (m.length : Int)) = true := by rw [bne_iff_ne]; omega
    rw [hd]
    go_enter Tryd.func48, Tryd.ntmps48
    go_wp2
    go_ret
    exact ⟨rfl, Below.refl _ _⟩

set_option maxRecDepth 100000 in
set_option maxHeartbeats 2000000 in
theorem short_any (l : List Lx.Tk) (A : Option Addr) (c : Nat) (w : World) (hl : l.length ≤ 1152921504606846976) (ht : ∀ x ∈ l, x.text.size ≤ 281474976710656) (hS : Tks w w.heap.size A l) :
    Calls Tryd.prog 28 #[.slice A l.length c] w fun e w' => e = .returned (.bool (Lx.shortOf l)) ∧ w = w' := by
  obtain ⟨R, hR⟩ : ∃ R, Lx.shortOf l = R := ⟨_, rfl⟩
  rw [hR]
  have HR := Lib.hid hR; clear hR
  have HS := Lib.hid hS; have HT := Lib.hid ht; clear hS ht
  go_enter Tryd.func28, Tryd.ntmps28
  go_wp2
  go_loop [3] (fun i => ∃ (k : Nat), k ≤ l.length ∧ i = .int .i64 k ∧ Hid (R = ((l.drop k).all (fun x => decide (x.text.size ≤ 100)) && decide (l.length ≤ 1000)))) (fun i => l.length - (intOf i).toNat)
  case atStart => exact ⟨0, Nat.zero_le _, rfl, HR.out.symm⟩
  case round =>
    obtain ⟨k, hk, rfl, hr⟩ := hrel
    by_cases hlt : k < l.length
    · obtain ⟨b, off, hAe, hbB, hc⟩ := HS.out (by intro e; subst e; simp at hlt)
      cases hAe
      obtain ⟨x, hx⟩ : ∃ x, l[k]? = some x := ⟨_, List.getElem?_eq_getElem hlt⟩
      have hd := Lx.drop_of_get hx
      have htx := HT.out x (List.mem_of_getElem? hx)
      obtain ⟨h1, h2, h3⟩ := hc k x hx
      have hr' := hr.out
      rw [hd, List.all_cons] at hr'
      clear hr hd hx hc
      by_cases hle : x.text.size ≤ 100
      · rw [decide_eq_true hle, Bool.true_and] at hr'
        have HR2 := Lib.hid hr'; clear hr'
        go_wp2
        go_round
        case rel => exact ⟨k + 1, by omega, by go_num, HR2.out⟩
        case measure => simp [intOf]; omega
      · rw [decide_eq_false hle, Bool.false_and, Bool.false_and] at hr'
        have HR2 := Lib.hid hr'; clear hr'
        go_wp2
        go_ret
        exact ⟨by rw [HR2.out]; rfl, rfl⟩
    · obtain rfl : k = l.length := by omega
      have hr' := hr.out
      rw [List.drop_length, List.all_nil, Bool.true_and] at hr'
      have HR2 := Lib.hid hr'; clear hr hr'
      go_wp2
      go_ret
      exact ⟨ret_bool (by rw [HR2.out]; exact Bool.eq_iff_iff.2 (by simp only [decide_eq_true_eq]; omega)), rfl⟩
end Go.Proofs.YtchkngabppmbkaaDoor
