/-
  PLAIN: what tokens two texts have in common; how many stay when a text is spliced.
-/
import Derived.Test.YtchkngabppmbkaaDoorSpecP
import Derived.Test.YtchkngabppmbkaaDoorSpecJ
namespace Go.Proofs.YtchkngabppmbkaaDoor.Lx

def tkAt (l : List Tk) (i : Nat) : Tk := l[i]?.getD ⟨0, ⟨#[]⟩, 0⟩
def Tk.moved (g : Int) (x : Tk) : Tk := ⟨x.kind, x.text, x.pos + g⟩
def tkMost (a b : List Tk) : Nat := min a.length b.length
def headT (a b : List Tk) (i : Nat) : Bool := decide (tkAt a i = tkAt b i)
def tailT (g : Int) (a b : List Tk) (j : Nat) : Bool := decide ((tkAt a (a.length - 1 - j)).moved g = tkAt b (b.length - 1 - j))
def headTks (a b : List Tk) : Nat := cnt (headT a b) (tkMost a b) 0
def tailTks (g : Int) (a b : List Tk) : Nat := cnt (tailT g a b) (tkMost a b - headTks a b) 0
theorem headTks_le (a b : List Tk) : headTks a b ≤ tkMost a b := by have := cnt_le (headT a b) (tkMost a b) 0; unfold headTks; omega
theorem tailTks_le (g : Int) (a b : List Tk) : headTks a b + tailTks g a b ≤ tkMost a b := by
  have h1 := headTks_le a b
  have := cnt_le (tailT g a b) (tkMost a b - headTks a b) 0
  unfold tailTks; omega
/-- What lex.Kept returns. -/
def keptOf (s : ByteArray) (x : Spl) : Nat × Nat × Nat :=
  if (applyOf s [x]).2 ≠ 0 then (0, 0, (applyOf s [x]).2)
  else if (tokensOf s).2.2 ≠ 0 then (0, 0, (tokensOf s).2.2)
  else if (tokensOf (applyOf s [x]).1).2.2 ≠ 0 then (0, 0, (tokensOf (applyOf s [x]).1).2.2)
  else (headTks (toksOf s) (toksOf (applyOf s [x]).1), tailTks (((applyOf s [x]).1.size : Int) - s.size) (toksOf s) (toksOf (applyOf s [x]).1), 0)

theorem cnt_upto {p : Nat → Bool} : ∀ (n f k : Nat), n ≤ f → (∀ i, k ≤ i → i < k + n → p i = true) → k + n ≤ cnt p f k
  | 0, f, k, _, _ => by have := cnt_ge p f k; omega
  | n + 1, 0, k, h, _ => by omega
  | n + 1, f + 1, k, h, hp => by
    rw [cnt, if_pos (hp k (by omega) (by omega))]
    have := cnt_upto n f (k + 1) (by omega) (fun i h1 h2 => hp i (by omega) (by omega))
    omega
theorem piecesAt_ge {s : ByteArray} {k : Nat} : ∀ x ∈ piecesAt s k, k ≤ x.pos ∧ x.pos + x.text.size ≤ s.size := by
  have key : ∀ (l : List Item) (q : Nat), inOrder s.size q l → ∀ x ∈ l, q ≤ x.pos ∧ x.pos + x.text.size ≤ s.size := fun l => by
    induction l with
    | nil => intro q _ x hx; cases hx
    | cons y ys ih =>
      intro q h x hx
      rcases List.mem_cons.1 hx with rfl | hx
      · exact ⟨h.1, h.2.1⟩
      · have := ih _ h.2.2 x hx
        have := h.1
        omega
  exact key _ _ (piecesFrom_order s _ _)
theorem after_tok {x : Item} (h : isTok x = true) : after x = x.pos + x.text.size := by
  unfold isTok at h
  have : x.kind ≠ 5 := by simpa using h
  unfold after
  rw [if_neg this]; omega

/-- Two texts that begin alike begin with the same pieces. -/
theorem pieces_prefix {s t : ByteArray} {P : Nat} (hs : P ≤ s.size) (ht : P ≤ t.size) (hb : ∀ j, j < P → byteAt t j = byteAt s j) : ∀ (n k : Nat), P - k ≤ n → k ≤ P →
    ∃ c r1 r2, piecesAt s k = c ++ r1 ∧ piecesAt t k = c ++ r2 ∧ ∀ x ∈ r1, P ≤ after x
  | 0, k, hn, hk => ⟨[], _, _, rfl, rfl, fun x hx => by have := (piecesAt_ge x hx).1; unfold after; omega⟩
  | n + 1, k, hn, hk => by
    by_cases hkP : k < P
    · have hks : k < s.size := by omega
      have hkt : k < t.size := by omega
      have h0 := hb k hkP
      rw [byteAt_eq s k hks, byteAt_eq t k hkt] at h0
      by_cases hbl : isBlank s[k] = true
      · rw [piecesAt_blank hks hbl, piecesAt_blank hkt (by rw [h0]; exact hbl)]
        exact pieces_prefix hs ht hb n (k + 1) (by omega) (by omega)
      · have hbl : isBlank s[k] = false := by simpa using hbl
        have haf := after_gt hks
        rw [piecesAt_item hks hbl, piecesAt_item hkt (by rw [h0]; exact hbl)]
        by_cases hle : after (itemAt s k) < P
        · obtain ⟨e, he⟩ : ∃ e, k + e = after (itemAt s k) := ⟨after (itemAt s k) - k, by omega⟩
          obtain ⟨q1, q2, q3⟩ := piece_stops hks he
          have hp := piece_same (t := t) (k' := k) hks he (by omega) (fun j hj => hb _ (by omega))
            (fun h hlt => by rw [hb _ (by omega)]; exact q1 h (by omega))
            (fun h h1 hlt => by subst h1; rw [hb _ (by omega)]; exact q2 h rfl (by omega))
            (fun h hlt => by rw [hb _ (by omega)]; exact q3 h (by omega))
          have hi : itemAt t k = itemAt s k := by unfold itemAt; rw [hp]
          rw [hi]
          obtain ⟨c, r1, r2, e1, e2, e3⟩ := pieces_prefix hs ht hb n (after (itemAt s k)) (by omega) (by omega)
          exact ⟨itemAt s k :: c, r1, r2, by rw [e1]; rfl, by rw [e2]; rfl, e3⟩
        · refine ⟨[], _, _, rfl, rfl, fun x hx => ?_⟩
          rcases List.mem_cons.1 hx with rfl | hx
          · omega
          · have h1 := (piecesAt_ge x hx).1
            have h2 : x.pos ≤ after x := by unfold after; omega
            omega
    · exact ⟨[], _, _, rfl, rfl, fun x hx => by have := (piecesAt_ge x hx).1; unfold after; omega⟩

/-- Two texts that end alike end with the same pieces, further on. -/
theorem pieces_suffix {s t : ByteArray} {h q : Nat} (hh : h ≤ s.size) (hq : q ≤ t.size) (hz : t.size - q = s.size - h) (hb : ∀ j, h + j < s.size → byteAt t (q + j) = byteAt s (h + j)) : ∀ (n d : Nat), s.size - (h + d) ≤ n →
    piecesAt t (q + d) = (piecesAt s (h + d)).map (fun x => { x with pos := x.pos - h + q })
  | 0, d, hn => by rw [piecesAt_end (by omega), piecesAt_end (by omega)]; rfl
  | n + 1, d, hn => by
    by_cases hks : h + d < s.size
    · have hkt : q + d < t.size := by omega
      have h0 := hb d hks
      rw [byteAt_eq s _ hks, byteAt_eq t _ hkt] at h0
      by_cases hbl : isBlank s[h + d] = true
      · rw [piecesAt_blank hks hbl, piecesAt_blank hkt (by rw [h0]; exact hbl)]
        exact pieces_suffix hh hq hz hb n (d + 1) (by omega)
      · have hbl : isBlank s[h + d] = false := by simpa using hbl
        have haf := after_gt hks
        rw [piecesAt_item hks hbl, piecesAt_item hkt (by rw [h0]; exact hbl)]
        obtain ⟨e, he⟩ : ∃ e, h + d + e = after (itemAt s (h + d)) := ⟨after (itemAt s (h + d)) - (h + d), by omega⟩
        obtain ⟨q1, q2, q3⟩ := piece_stops hks he
        have hp := piece_same (t := t) (k' := q + d) hks he (by omega) (fun j hj => by rw [show q + d + j = q + (d + j) by omega, show h + d + j = h + (d + j) by omega]; exact hb _ (by omega))
          (fun hc hlt => by rw [show q + d + e = q + (d + e) by omega, hb _ (by omega), show h + (d + e) = h + d + e by omega]; exact q1 hc (by omega))
          (fun hc h1 hlt => by subst h1; rw [show q + d + 1 = q + (d + 1) by omega, hb _ (by omega), show h + (d + 1) = h + d + 1 by omega]; exact q2 hc rfl (by omega))
          (fun hc hlt => by rw [show q + d + e = q + (d + e) by omega, hb _ (by omega), show h + (d + e) = h + d + e by omega]; exact q3 hc (by omega))
        have hi : itemAt t (q + d) = { itemAt s (h + d) with pos := (itemAt s (h + d)).pos - h + q } := by
          have : (itemAt s (h + d)).pos - h + q = q + d := by
            have : (itemAt s (h + d)).pos = h + d := rfl
            omega
          rw [this, item_same hp]
        have haft : after (itemAt t (q + d)) = q + (d + e) := by
          have h1 := after_shift (x := itemAt s (h + d)) (k' := q + d)
          rw [← item_same hp] at h1
          have : (itemAt s (h + d)).pos = h + d := rfl
          omega
        rw [haft, hi, List.map_cons, pieces_suffix hh hq hz hb n (d + e) (by omega), show h + (d + e) = after (itemAt s (h + d)) by omega]
    · rw [piecesAt_end (by omega), piecesAt_end (by omega)]; rfl

theorem cls_ten : cls 10 = 1 := by decide
/-- No piece goes on behind a line feed. -/
theorem item_line {s : ByteArray} {k j : Nat} (hk : k < s.size) (hb : isBlank (byteAt s k) = false) (hj : k ≤ j) (hja : j < after (itemAt s k)) : byteAt s j ≠ 10 := by
  intro he
  have hk10 : byteAt s k ≠ 10 := fun e => by rw [e] at hb; exact absurd hb (by decide)
  have haf := after_gt hk
  by_cases h6 : cls (byteAt s k) = 6
  · rw [after_note hk h6] at hja
    by_cases e : j = k
    · subst e; exact hk10 he
    · have := runEnd_mem (p := notNL) _ (k + 1) j rfl (by omega) hja (by omega)
      rw [he] at this; exact absurd this (by decide)
  · by_cases h24 : cls (byteAt s k) = 2 ∨ cls (byteAt s k) = 4
    · rw [after_word hk h24] at hja
      have := runEnd_mem (p := isAlnum) _ k j rfl hj hja (by omega)
      rw [he] at this; exact absurd this (by decide)
    · by_cases h5 : cls (byteAt s k) = 5
      · rw [after_sign hk h5] at hja
        unfold signEnd at hja
        by_cases ht : two s k = true
        · rw [if_pos ht] at hja
          rw [two_iff] at ht
          by_cases e : j = k
          · subst e; exact hk10 he
          · obtain rfl : j = k + 1 := by omega
            rcases ht.2 with h | h <;> rw [h.2] at he <;> exact absurd he (by decide)
        · rw [if_neg ht] at hja
          obtain rfl : j = k := by omega
          exact hk10 he
      · rw [after_idle hk h6 (fun e => h24 (.inl e)) (fun e => h24 (.inr e)) h5] at hja
        obtain rfl : j = k := by omega
        exact hk10 he
theorem pieces_pass {s : ByteArray} {m : Nat} (hm : m < s.size) (hnl : byteAt s m = 10) : ∀ (n k : Nat), m - k ≤ n → k ≤ m → ∃ c, piecesAt s k = c ++ piecesAt s (m + 1) ∧ ∀ x ∈ c, x.pos < m
  | n, k, hn, hk => by
    by_cases hkm : k = m
    · subst hkm
      have : isBlank s[k] = true := by rw [← byteAt_eq s k hm, hnl]; decide
      exact ⟨[], by rw [piecesAt_blank hm this]; rfl, fun x hx => by cases hx⟩
    · match n, hn with
      | 0, hn => omega
      | n + 1, hn =>
        have hks : k < s.size := by omega
        by_cases hbl : isBlank s[k] = true
        · rw [piecesAt_blank hks hbl]
          exact pieces_pass hm hnl n (k + 1) (by omega) (by omega)
        · have hbl : isBlank s[k] = false := by simpa using hbl
          have haf := after_gt hks
          have hle : after (itemAt s k) ≤ m := by
            rcases Nat.lt_or_ge m (after (itemAt s k)) with h | h
            · exact absurd hnl (item_line hks (by rw [byteAt_eq s k hks]; exact hbl) (by omega) h)
            · exact h
          obtain ⟨c, e1, e2⟩ := pieces_pass hm hnl n (after (itemAt s k)) (by omega) hle
          refine ⟨itemAt s k :: c, by rw [piecesAt_item hks hbl, e1]; rfl, fun x hx => ?_⟩
          rcases List.mem_cons.1 hx with rfl | hx
          · show k < m; omega
          · exact e2 x hx
end Go.Proofs.YtchkngabppmbkaaDoor.Lx
