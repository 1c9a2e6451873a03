/-
  PLAIN: comments are found as well byte by byte.
-/
import Derived.Test.YtchkngabppmbkaaDoorSpecG
import Derived.Test.YtchkngabppmbkaaDoorSpecL
namespace Go.Proofs.YtchkngabppmbkaaDoor.Lx

def refNotesFrom (s : ByteArray) : Nat → Nat → List Item
  | 0, _ => []
  | f + 1, k => if k < s.size then (if cls (byteAt s k) = 6 then itemAt s k :: refNotesFrom s f (after (itemAt s k)) else refNotesFrom s f (k + 1)) else []
def refNotesAt (s : ByteArray) (k : Nat) : List Item := refNotesFrom s (s.size - k) k
theorem refNotesFrom_fuel (s : ByteArray) : ∀ (f k : Nat), s.size - k ≤ f → refNotesFrom s f k = refNotesAt s k
  | 0, k, h => by unfold refNotesAt; rw [show s.size - k = 0 by omega]
  | f + 1, k, h => by
    by_cases hk : k < s.size
    · obtain ⟨g, hg⟩ : ∃ g, s.size - k = g + 1 := ⟨s.size - k - 1, by omega⟩
      have ha := after_gt hk
      unfold refNotesAt
      rw [hg]
      unfold refNotesFrom
      rw [if_pos hk, if_pos hk, refNotesFrom_fuel s f (k + 1) (by omega), refNotesFrom_fuel s f _ (by omega), refNotesFrom_fuel s g (k + 1) (by omega), refNotesFrom_fuel s g _ (by omega)]
    · unfold refNotesAt
      rw [show s.size - k = 0 by omega]
      unfold refNotesFrom
      rw [if_neg hk]
termination_by f _ => f
theorem refNotesAt_end {s : ByteArray} {k : Nat} (h : s.size ≤ k) : refNotesAt s k = [] := by unfold refNotesAt; rw [show s.size - k = 0 by omega]; rfl
theorem refNotesAt_note {s : ByteArray} {k : Nat} (hk : k < s.size) (h : cls (byteAt s k) = 6) : refNotesAt s k = itemAt s k :: refNotesAt s (after (itemAt s k)) := by
  rw [← refNotesFrom_fuel s (s.size + 1) k (by omega)]
  unfold refNotesFrom
  have := after_gt hk
  rw [if_pos hk, if_pos h, refNotesFrom_fuel s _ _ (by omega)]
theorem refNotesAt_skip {s : ByteArray} {k : Nat} (hk : k < s.size) (h : cls (byteAt s k) ≠ 6) : refNotesAt s k = refNotesAt s (k + 1) := by
  rw [← refNotesFrom_fuel s (s.size + 1) k (by omega)]
  unfold refNotesFrom
  rw [if_pos hk, if_neg h, refNotesFrom_fuel s _ _ (by omega)]
theorem refNotesAt_jump {s : ByteArray} {e : Nat} : ∀ (d k : Nat), e - k = d → k ≤ e → (∀ j, k ≤ j → j < e → j < s.size ∧ cls (byteAt s j) ≠ 6) → refNotesAt s k = refNotesAt s e
  | 0, k, hd, hk, _ => by rw [show k = e by omega]
  | d + 1, k, hd, hk, h => by
    have h1 := h k (Nat.le_refl _) (by omega)
    rw [refNotesAt_skip h1.1 h1.2]
    exact refNotesAt_jump d (k + 1) (by omega) (by omega) fun j hj hje => h j (by omega) hje
theorem runEnd_mem {p : UInt8 → Bool} {s : ByteArray} : ∀ (d k j : Nat), j - k = d → k ≤ j → j < runEnd p s k → k ≤ s.size → p (byteAt s j) = true
  | 0, k, j, hd, hk, hj, hs => by
    obtain rfl : k = j := by omega
    have hlt : k < s.size := by
      have := runEnd_le (p := p) (s := s) hs; omega
    rw [byteAt_eq s k hlt]
    cases hp : p s[k]
    · rw [runEnd_stop hlt hp] at hj; omega
    · rfl
  | d + 1, k, j, hd, hk, hj, hs => by
    have hlt : k < s.size := by
      have := runEnd_le (p := p) (s := s) hs; omega
    cases hp : p s[k]
    · rw [runEnd_stop hlt hp] at hj; omega
    · rw [runEnd_step hlt hp] at hj
      exact runEnd_mem d (k + 1) j (by omega) (by omega) hj (by omega)
theorem alnum_not6 {c : UInt8} (h : isAlnum c = true) : cls c ≠ 6 := fun e => by
  rw [alnum_byte, e] at h; cases h
theorem prefix_byte {s : ByteArray} {k : Nat} {a b : UInt8} (h : Lib.hasPrefix (s.extract k s.size).data.toList [a, b] = true) : byteAt s (k + 1) = b := by
  unfold Lib.hasPrefix at h
  have hl : (s.extract k s.size).data.toList = s.data.toList.drop k := by rw [extract_list, List.take_of_length_le (by simp)]
  rw [hl] at h
  obtain ⟨t, ht⟩ := List.isPrefixOf_iff_prefix.1 h
  have : (s.data.toList.drop k)[1]? = some b := by rw [← ht]; rfl
  rw [List.getElem?_drop] at this
  unfold byteAt
  rw [this]; rfl
/-- A token holds no ~. -/
theorem token_bytes {s : ByteArray} {k : Nat} (hk : k < s.size) (h6 : cls (byteAt s k) ≠ 6) : ∀ j, k ≤ j → j < after (itemAt s k) → j < s.size ∧ cls (byteAt s j) ≠ 6 := by
  intro j hj hja
  have haf := after_gt hk
  refine ⟨by omega, ?_⟩
  have hword : ∀ kd er, itemAt s k = ⟨kd, wordAt s k, k, er⟩ → kd ≠ 5 → cls (byteAt s j) ≠ 6 := fun kd er hi hkd => by
    rw [hi] at hja
    unfold after at hja
    simp only [if_neg hkd] at hja
    have hsz : (wordAt s k).size ≤ runEnd isAlnum s k - k := by unfold wordAt; rw [ByteArray.size_extract]; omega
    exact alnum_not6 (runEnd_mem _ k j rfl hj (by omega) (by omega))
  have hi0 : itemAt s k = ⟨(piece s k).1, (piece s k).2.1, k, (piece s k).2.2⟩ := rfl
  by_cases h2 : cls (byteAt s k) = 2
  · by_cases hw : isWord (wordAt s k) = true
    · exact hword 3 0 (by rw [hi0]; unfold piece; rw [if_neg h6, if_pos h2, if_pos hw]) (by omega)
    · exact hword 1 (nameErr (wordAt s k)) (by rw [hi0]; unfold piece; rw [if_neg h6, if_pos h2, if_neg hw]) (by omega)
  · by_cases h4 : cls (byteAt s k) = 4
    · exact hword 2 (numErr (wordAt s k)) (by rw [hi0]; unfold piece; rw [if_neg h6, if_neg h2, if_pos h4]) (by omega)
    · by_cases h5 : cls (byteAt s k) = 5
      · have hi : itemAt s k = ⟨4, s.extract k (signEnd s k), k, 0⟩ := by rw [hi0]; unfold piece; rw [if_neg h6, if_neg h2, if_neg h4, if_pos h5]
        rw [hi] at hja
        unfold after at hja
        simp only [if_neg (show (4 : Nat) ≠ 5 by omega)] at hja
        rw [ByteArray.size_extract] at hja
        unfold signEnd at hja
        cases ht : two s k
        · rw [ht] at hja
          simp only [Bool.false_eq_true, if_false] at hja
          obtain rfl : j = k := by omega
          exact h6
        · rw [ht] at hja
          simp only [if_true] at hja
          by_cases e : j = k
          · rw [e]; exact h6
          · obtain rfl : j = k + 1 := by omega
            unfold two at ht
            rw [Bool.or_eq_true] at ht
            rcases ht with ht | ht
            · rw [prefix_byte ht]; decide
            · rw [prefix_byte ht]; decide
      · have hi : itemAt s k = ⟨0, s.extract k (k + 1), k, 4⟩ := by rw [hi0]; unfold piece; rw [if_neg h6, if_neg h2, if_neg h4, if_neg h5]
        rw [hi] at hja
        unfold after at hja
        simp only [if_neg (show (0 : Nat) ≠ 5 by omega)] at hja
        rw [ByteArray.size_extract] at hja
        obtain rfl : j = k := by omega
        exact h6
theorem refNotesAt_eq (s : ByteArray) : ∀ (n k : Nat), s.size - k ≤ n → refNotesAt s k = (piecesAt s k).filter (fun x => !isTok x)
  | 0, k, h => by rw [refNotesAt_end (by omega), piecesAt_end (by omega)]; rfl
  | n + 1, k, h => by
    by_cases hk : k < s.size
    · by_cases hb : isBlank s[k] = true
      · have h6 : cls (byteAt s k) ≠ 6 := by
          rw [byteAt_eq s k hk]
          intro e
          unfold isBlank at hb
          rw [e] at hb; cases hb
        rw [piecesAt_blank hk hb, refNotesAt_skip hk h6]
        exact refNotesAt_eq s n (k + 1) (by omega)
      · have hb : isBlank s[k] = false := by simpa using hb
        have haf := after_gt hk
        rw [piecesAt_item hk hb, List.filter_cons]
        have hi0 : (itemAt s k).kind = (piece s k).1 := rfl
        by_cases h6 : cls (byteAt s k) = 6
        · have : isTok (itemAt s k) = false := by unfold isTok; rw [hi0]; unfold piece; rw [if_pos h6]; rfl
          rw [this, refNotesAt_note hk h6, refNotesAt_eq s n _ (by omega)]
          rfl
        · have : isTok (itemAt s k) = true := by
            unfold isTok; rw [hi0]; unfold piece; rw [if_neg h6]
            (repeat' split) <;> rfl
          rw [this, refNotesAt_jump _ k rfl (by omega) (token_bytes hk h6), refNotesAt_eq s n _ (by omega)]
          rfl
    · rw [refNotesAt_end (by omega), piecesAt_end (by omega)]; rfl
theorem notesOf_ref {s : ByteArray} (h : (textErr s).2 = 0) : notesOf s = (refNotesAt s 0, 0) := by
  unfold notesOf
  rw [if_neg (by omega), refNotesAt_eq s _ 0 (Nat.le_refl _)]; rfl
end Go.Proofs.YtchkngabppmbkaaDoor.Lx
