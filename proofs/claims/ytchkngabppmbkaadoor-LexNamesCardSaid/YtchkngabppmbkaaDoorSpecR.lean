/-
  PLAIN: tokens far from a splice stay.
-/
import Derived.Test.YtchkngabppmbkaaDoorSpecQ
namespace Go.Proofs.YtchkngabppmbkaaDoor.Lx

theorem applyOne {s : ByteArray} {x : Spl} (h : (applyOf s [x]).2 = 0) : s.size ≤ 2500 ∧ 0 ≤ x.lo ∧ x.lo ≤ x.hi ∧ x.hi ≤ s.size ∧
    (applyOf s [x]).1.data.toList = s.data.toList.take x.lo.toNat ++ (x.text.data.toList ++ s.data.toList.drop x.hi.toNat) := by
  have hc : (changesOf s [x]).2 = 0 := by
    unfold applyOf at h
    by_cases hc : (changesOf s [x]).2 = 0
    · exact hc
    · rw [if_pos hc] at h; exact absurd h hc
  obtain ⟨_, hte, _, hr, _, _⟩ := changesOf_ok hc
  have ha := rightFrom_all hr x (.head _)
  refine ⟨textErr_le hte, ha.1, ha.2.1, ha.2.2, ?_⟩
  unfold applyOf
  rw [if_neg (by omega)]
  show spliceOut s 0 [x] = _
  unfold spliceOut spliceOut
  rw [extract_toList, extract_toList, List.take_of_length_le (l := s.data.toList.drop x.hi.toNat) (by simp)]
  simp

def beforeOf (lo : Int) (l : List Tk) : Nat := (l.filter (fun x => decide (x.pos + x.text.size < lo))).length
def behindOf (ln : Int) (l : List Tk) : Nat := (l.filter (fun x => decide (ln < x.pos))).length
theorem filter_none_len {α : Type} {p : α → Bool} {l : List α} (h : ∀ x ∈ l, p x = false) : (l.filter p).length = 0 := by
  rw [List.length_eq_zero_iff, List.filter_eq_nil_iff]
  intro x hx; rw [h x hx]; simp
theorem tkAt_append_left {a b : List Tk} {i : Nat} (h : i < a.length) : tkAt (a ++ b) i = tkAt a i := by unfold tkAt; rw [List.getElem?_append_left h]
theorem tkAt_append_right {a b : List Tk} {i : Nat} (h : a.length ≤ i) : tkAt (a ++ b) i = tkAt b (i - a.length) := by unfold tkAt; rw [List.getElem?_append_right h]
theorem tkAt_map {b : List Tk} {i : Nat} {f : Tk → Tk} (h : i < b.length) : tkAt (b.map f) i = f (tkAt b i) := by
  unfold tkAt
  rw [List.getElem?_map, List.getElem?_eq_getElem h]; rfl
theorem toksOf_ok {s : ByteArray} (h : (tokensOf s).2.2 = 0) : toksOf s = ((pieces s).filter isTok).map Item.tk := by unfold toksOf; rw [(tokensOf_ok h).2.2.1]

/-- P1.12. -/
theorem far {s : ByteArray} {x : Spl} (h0 : (applyOf s [x]).2 = 0) (h1 : (tokensOf s).2.2 = 0) (h2 : (tokensOf (applyOf s [x]).1).2.2 = 0) :
    beforeOf x.lo (toksOf s) ≤ headTks (toksOf s) (toksOf (applyOf s [x]).1) ∧
    min (behindOf (runEnd notNL s x.hi.toNat : Nat) (toksOf s)) (min ((toksOf s).length - headTks (toksOf s) (toksOf (applyOf s [x]).1)) ((toksOf (applyOf s [x]).1).length - headTks (toksOf s) (toksOf (applyOf s [x]).1)))
      ≤ tailTks (((applyOf s [x]).1.size : Int) - s.size) (toksOf s) (toksOf (applyOf s [x]).1) := by
  obtain ⟨hsz, hlo, hle, hhi, hl⟩ := applyOne h0
  rw [toksOf_ok h1, toksOf_ok h2]
  generalize (applyOf s [x]).1 = t at *
  clear h0 h1 h2
  obtain ⟨lo, elo⟩ : ∃ lo : Nat, x.lo = lo := ⟨x.lo.toNat, by omega⟩
  obtain ⟨hi, ehi⟩ : ∃ hi : Nat, x.hi = hi := ⟨x.hi.toNat, by omega⟩
  rw [elo, ehi] at hl
  rw [elo, ehi]
  simp only [Int.toNat_natCast] at hl ⊢
  have hzs : s.data.toList.length = s.size := bytes_length s
  have hzx : x.text.data.toList.length = x.text.size := bytes_length x.text
  have htz : t.size = lo + x.text.size + (s.size - hi) := by
    rw [← bytes_length t, hl, List.length_append, List.length_append, List.length_take, List.length_drop, hzs, hzx]; omega
  have hbp : ∀ j, j < lo → byteAt t j = byteAt s j := fun j hj => byteAt_of (by
    rw [hl, List.getElem?_append_left (by rw [List.length_take, hzs]; omega), List.getElem?_take_of_lt hj])
  have hbs : ∀ j, hi + j < s.size → byteAt t (lo + x.text.size + j) = byteAt s (hi + j) := fun j hj => byteAt_of (by
    rw [hl, List.getElem?_append_right (by rw [List.length_take, hzs]; omega), List.length_take, hzs, List.getElem?_append_right (by rw [hzx]; omega), hzx, List.getElem?_drop]
    congr 1; omega)
  obtain ⟨c, r1, r2, e1, e2, e3⟩ := pieces_prefix (s := s) (t := t) (P := lo) (by omega) (by omega) hbp lo 0 (by omega) (by omega)
  have hA : (pieces s).filter isTok = c.filter isTok ++ r1.filter isTok := by unfold pieces; rw [e1, List.filter_append]
  have hB : (pieces t).filter isTok = c.filter isTok ++ r2.filter isTok := by unfold pieces; rw [e2, List.filter_append]
  have hr1 : ∀ y ∈ (r1.filter isTok).map Item.tk, decide (y.pos + y.text.size < (lo : Int)) = false := fun y hy => by
    obtain ⟨z, hz, rfl⟩ := List.mem_map.1 hy
    obtain ⟨hz1, hz2⟩ := List.mem_filter.1 hz
    have := e3 z hz1
    rw [after_tok hz2] at this
    rw [decide_eq_false_iff_not]
    show ¬ ((z.pos : Int) + (z.text.size : Int) < (lo : Int))
    omega
  refine ⟨?_, ?_⟩
  · rw [hA, hB, List.map_append, List.map_append]
    unfold beforeOf
    rw [List.filter_append, List.length_append, filter_none_len hr1, Nat.add_zero]
    refine Nat.le_trans (List.length_filter_le _ _) ?_
    have := cnt_upto (p := headT ((c.filter isTok).map Item.tk ++ (r1.filter isTok).map Item.tk) ((c.filter isTok).map Item.tk ++ (r2.filter isTok).map Item.tk)) ((c.filter isTok).map Item.tk).length (tkMost ((c.filter isTok).map Item.tk ++ (r1.filter isTok).map Item.tk) ((c.filter isTok).map Item.tk ++ (r2.filter isTok).map Item.tk)) 0 (by unfold tkMost; rw [List.length_append, List.length_append]; omega)
      (fun i _ hi => by unfold headT; rw [tkAt_append_left (by omega), tkAt_append_left (by omega)]; simp)
    rw [Nat.zero_add] at this
    exact this
  · clear hA hB hr1 e1 e2 e3
    obtain ⟨m, hm⟩ : ∃ m, runEnd notNL s hi = m := ⟨_, rfl⟩
    rw [hm]
    have hms : m ≤ s.size := hm ▸ runEnd_le (by omega)
    have hmh : hi ≤ m := hm ▸ runEnd_ge
    by_cases hlt : m < s.size
    · have hnl : byteAt s m = 10 := by
        have h3 : (byteAt s (runEnd notNL s hi) != 10) = false := runEnd_stops (p := notNL) (s := s) _ hi rfl (by omega)
        rw [hm] at h3
        simpa using h3
      have hnlt : byteAt t (lo + x.text.size + (m - hi)) = 10 := by rw [hbs _ (by omega), show hi + (m - hi) = m by omega]; exact hnl
      obtain ⟨cs, f1, f2⟩ := pieces_pass hlt hnl m 0 (by omega) (by omega)
      obtain ⟨ct, g1, g2⟩ := pieces_pass (s := t) (m := lo + x.text.size + (m - hi)) (by omega) hnlt _ 0 (Nat.le_refl _) (by omega)
      have hsuf := pieces_suffix (s := s) (t := t) (h := hi) (q := lo + x.text.size) (by omega) (by omega) (by omega) hbs _ (m + 1 - hi) (Nat.le_refl _)
      rw [show hi + (m + 1 - hi) = m + 1 by omega] at hsuf
      rw [show lo + x.text.size + (m + 1 - hi) = lo + x.text.size + (m - hi) + 1 by omega] at hsuf
      rw [hsuf] at g1
      have hS : ∀ y ∈ piecesAt s (m + 1), m + 1 ≤ y.pos := fun y hy => (piecesAt_ge y hy).1
      have hA : ((pieces s).filter isTok).map Item.tk = (cs.filter isTok).map Item.tk ++ ((piecesAt s (m + 1)).filter isTok).map Item.tk := by unfold pieces; rw [f1, List.filter_append, List.map_append]
      have hB : ((pieces t).filter isTok).map Item.tk = (ct.filter isTok).map Item.tk ++ (((piecesAt s (m + 1)).filter isTok).map Item.tk).map (Tk.moved ((t.size : Int) - s.size)) := by
        unfold pieces
        rw [g1, List.filter_append, List.map_append, List.filter_map, List.map_map, List.map_map]
        congr 1
        have hfe : (isTok ∘ fun x_1 : Item => { x_1 with pos := x_1.pos - hi + (lo + x.text.size) }) = isTok := by funext y; rfl
        rw [hfe]
        refine List.map_congr_left fun y hy => ?_
        have hy1 := hS y (List.mem_filter.1 hy).1
        simp only [Function.comp, Item.tk, Tk.moved]
        congr 1
        omega
      rw [hA, hB]
      generalize hSS : ((piecesAt s (m + 1)).filter isTok).map Item.tk = S at *
      have hcs : ∀ y ∈ (cs.filter isTok).map Item.tk, decide ((m : Int) < y.pos) = false := fun y hy => by
        obtain ⟨z, hz, rfl⟩ := List.mem_map.1 hy
        have := f2 z (List.mem_filter.1 hz).1
        rw [decide_eq_false_iff_not]
        show ¬ ((m : Int) < (z.pos : Int))
        omega
      generalize (cs.filter isTok).map Item.tk = A1 at *
      generalize (ct.filter isTok).map Item.tk = B1 at *
      unfold behindOf
      rw [List.filter_append, List.length_append, filter_none_len hcs, Nat.zero_add]
      have hlS : (S.filter (fun x => decide ((m : Int) < x.pos))).length ≤ S.length := List.length_filter_le _ _
      have hh := headTks_le (A1 ++ S) (B1 ++ S.map (Tk.moved ((t.size : Int) - s.size)))
      unfold tailTks
      generalize hH : headTks (A1 ++ S) (B1 ++ S.map (Tk.moved ((t.size : Int) - s.size))) = H at *
      unfold tkMost at hh ⊢
      have hl1 : (A1 ++ S).length = A1.length + S.length := List.length_append
      have hl2 : (B1 ++ S.map (Tk.moved ((t.size : Int) - s.size))).length = B1.length + S.length := by rw [List.length_append, List.length_map]
      generalize hn : min (S.filter (fun x => decide ((m : Int) < x.pos))).length (min ((A1 ++ S).length - H) ((B1 ++ S.map (Tk.moved ((t.size : Int) - s.size))).length - H)) = n
      have := cnt_upto (p := tailT ((t.size : Int) - s.size) (A1 ++ S) (B1 ++ S.map (Tk.moved ((t.size : Int) - s.size)))) n (min (A1 ++ S).length (B1 ++ S.map (Tk.moved ((t.size : Int) - s.size))).length - H) 0 (by omega) (fun i _ hi => by
        unfold tailT
        rw [hl1, hl2, tkAt_append_right (by omega), tkAt_append_right (by omega), tkAt_map (by omega)]
        rw [show A1.length + S.length - 1 - i - A1.length = S.length - 1 - i by omega, show B1.length + S.length - 1 - i - B1.length = S.length - 1 - i by omega]
        simp)
      rw [Nat.zero_add] at this
      exact this
    · have : behindOf (m : Int) (((pieces s).filter isTok).map Item.tk) = 0 := by
        unfold behindOf
        refine filter_none_len fun y hy => ?_
        obtain ⟨z, hz, rfl⟩ := List.mem_map.1 hy
        have := (piecesAt_ge z (List.mem_filter.1 hz).1).2
        rw [decide_eq_false_iff_not]
        show ¬ ((m : Int) < (z.pos : Int))
        omega
      rw [this]; omega
end Go.Proofs.YtchkngabppmbkaaDoor.Lx
