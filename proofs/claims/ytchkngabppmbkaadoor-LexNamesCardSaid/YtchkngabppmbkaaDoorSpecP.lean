/-
  PLAIN: what stands at a place hangs on its own bytes, and on the one behind them.
-/
import Derived.Test.YtchkngabppmbkaaDoorSpecN
namespace Go.Proofs.YtchkngabppmbkaaDoor.Lx

theorem runEnd_eq {p : UInt8 → Bool} {s : ByteArray} : ∀ (n k : Nat), k + n ≤ s.size → (∀ j, j < n → p (byteAt s (k + j)) = true) → (k + n < s.size → p (byteAt s (k + n)) = false) → runEnd p s k = k + n
  | 0, k, h, _, hz => by
    by_cases hk : k < s.size
    · have := hz (by omega)
      rw [Nat.add_zero, byteAt_eq s k hk] at this
      exact runEnd_stop hk this
    · exact runEnd_end (by omega)
  | n + 1, k, h, ha, hz => by
    have hk : k < s.size := by omega
    have h0 := ha 0 (by omega)
    rw [Nat.add_zero, byteAt_eq s k hk] at h0
    rw [runEnd_step hk h0, runEnd_eq n (k + 1) (by omega) (fun j hj => by have := ha (j + 1) (by omega); rwa [show k + 1 + j = k + (j + 1) by omega]) (fun hlt => by have := hz (by omega); rwa [show k + 1 + n = k + (n + 1) by omega])]
    omega
theorem runEnd_stops {p : UInt8 → Bool} {s : ByteArray} : ∀ (n k : Nat), s.size - k = n → runEnd p s k < s.size → p (byteAt s (runEnd p s k)) = false
  | 0, k, hn, h => by have := runEnd_ge (p := p) (s := s) (k := k); omega
  | n + 1, k, hn, h => by
    have hk : k < s.size := by omega
    cases hp : p s[k]
    · rw [runEnd_stop hk hp, byteAt_eq s k hk]; exact hp
    · rw [runEnd_step hk hp] at h ⊢
      exact runEnd_stops n (k + 1) (by omega) h
theorem byteAt_get {s : ByteArray} {k : Nat} (h : k < s.size) : s.data.toList[k]? = some (byteAt s k) := by
  rw [byteAt_eq s k h, List.getElem?_eq_getElem (by simpa using h)]; rfl
theorem extract_same {s t : ByteArray} {k k' e : Nat} (hs : k + e ≤ s.size) (ht : k' + e ≤ t.size) (h : ∀ j, j < e → byteAt t (k' + j) = byteAt s (k + j)) : t.extract k' (k' + e) = s.extract k (k + e) := by
  have : (t.extract k' (k' + e)).data.toList = (s.extract k (k + e)).data.toList := by
    apply List.ext_getElem?
    intro i
    rw [extract_list, extract_list]
    by_cases hi : i < e
    · rw [List.getElem?_take_of_lt (by omega), List.getElem?_take_of_lt (by omega), List.getElem?_drop, List.getElem?_drop, byteAt_get (by omega), byteAt_get (by omega), h i hi]
    · rw [List.getElem?_eq_none (by simp; omega), List.getElem?_eq_none (by simp; omega)]
  rw [array_list this]
theorem hasPrefix_iff (s : ByteArray) (k : Nat) (a b : UInt8) : Lib.hasPrefix (s.extract k s.size).data.toList [a, b] = true ↔ k + 1 < s.size ∧ byteAt s k = a ∧ byteAt s (k + 1) = b := by
  have hl : (s.extract k s.size).data.toList = s.data.toList.drop k := by rw [extract_list, List.take_of_length_le (by simp)]
  unfold Lib.hasPrefix
  rw [hl, List.isPrefixOf_iff_prefix]
  constructor
  · rintro ⟨t, ht⟩
    have h0 : (s.data.toList.drop k)[0]? = some a := by rw [← ht]; rfl
    have h1 : (s.data.toList.drop k)[1]? = some b := by rw [← ht]; rfl
    rw [List.getElem?_drop] at h0 h1
    have hlt : k + 1 < s.data.toList.length := (List.getElem?_eq_some_iff.1 h1).1
    refine ⟨by simpa using hlt, ?_, ?_⟩
    · unfold byteAt; rw [show k = k + 0 by omega, h0]; rfl
    · unfold byteAt; rw [h1]; rfl
  · rintro ⟨h0, h1, h2⟩
    refine ⟨s.data.toList.drop (k + 2), ?_⟩
    rw [List.drop_eq_getElem_cons (i := k) (by simp; omega), List.drop_eq_getElem_cons (i := k + 1) (by simp; omega)]
    have e1 := byteAt_get (s := s) (k := k) (by omega)
    have e2 := byteAt_get (s := s) (k := k + 1) (by omega)
    rw [List.getElem?_eq_getElem (by simp; omega)] at e1 e2
    rw [Option.some.inj e1, Option.some.inj e2, h1, h2]
    rfl
theorem two_iff (s : ByteArray) (k : Nat) : two s k = true ↔ k + 1 < s.size ∧ ((byteAt s k = 58 ∧ byteAt s (k + 1) = 61) ∨ (byteAt s k = 45 ∧ byteAt s (k + 1) = 62)) := by
  unfold two
  rw [Bool.or_eq_true, hasPrefix_iff, hasPrefix_iff]
  constructor
  · rintro (⟨a, b, c⟩ | ⟨a, b, c⟩)
    · exact ⟨a, .inl ⟨b, c⟩⟩
    · exact ⟨a, .inr ⟨b, c⟩⟩
  · rintro ⟨a, (⟨b, c⟩ | ⟨b, c⟩)⟩
    · exact .inl ⟨a, b, c⟩
    · exact .inr ⟨a, b, c⟩

/-- The bytes of what stands at a place end here. -/
theorem after_note {s : ByteArray} {k : Nat} (hk : k < s.size) (h : cls (byteAt s k) = 6) : after (itemAt s k) = runEnd notNL s (k + 1) := by
  have hle := runEnd_le (p := notNL) (s := s) (k := k + 1) (by omega)
  have hge := runEnd_ge (p := notNL) (s := s) (k := k + 1)
  unfold after itemAt piece
  simp only [h, if_true]
  rw [ByteArray.size_extract]; omega
theorem wordAt_len {s : ByteArray} {k : Nat} (hk : k < s.size) : k + (wordAt s k).size = runEnd isAlnum s k := by
  have hle := runEnd_le (p := isAlnum) (s := s) (k := k) (by omega)
  have hge := runEnd_ge (p := isAlnum) (s := s) (k := k)
  unfold wordAt
  rw [ByteArray.size_extract]; omega
theorem after_word {s : ByteArray} {k : Nat} (hk : k < s.size) (h : cls (byteAt s k) = 2 ∨ cls (byteAt s k) = 4) : after (itemAt s k) = runEnd isAlnum s k := by
  rw [← wordAt_len hk]
  unfold after itemAt piece
  rcases h with h | h
  · simp only [h, if_true, show ((2 : Nat) = 6) = False by simp, if_false]
    cases isWord (wordAt s k) <;> simp
  · simp only [h, if_true, show ((4 : Nat) = 6) = False by simp, show ((4 : Nat) = 2) = False by simp, if_false]
    simp
theorem signEnd_le {s : ByteArray} {k : Nat} (hk : k < s.size) : signEnd s k ≤ s.size := by
  unfold signEnd
  cases ht : two s k
  · simp; omega
  · have := two_le ht; simp; omega
theorem after_sign {s : ByteArray} {k : Nat} (hk : k < s.size) (h : cls (byteAt s k) = 5) : after (itemAt s k) = signEnd s k := by
  have := signEnd_le hk
  have h2 : k < signEnd s k := by unfold signEnd; split <;> omega
  unfold after itemAt piece
  simp only [h, if_true, show ((5 : Nat) = 6) = False by simp, show ((5 : Nat) = 2) = False by simp, show ((5 : Nat) = 4) = False by simp, if_false]
  rw [ByteArray.size_extract]; simp; omega
theorem after_idle {s : ByteArray} {k : Nat} (hk : k < s.size) (h6 : cls (byteAt s k) ≠ 6) (h2 : cls (byteAt s k) ≠ 2) (h4 : cls (byteAt s k) ≠ 4) (h5 : cls (byteAt s k) ≠ 5) : after (itemAt s k) = k + 1 := by
  unfold after itemAt piece
  rw [if_neg h6, if_neg h2, if_neg h4, if_neg h5]
  simp only [show ((0 : Nat) = 5) = False by simp, if_false]
  rw [ByteArray.size_extract]; omega

/-- WHAT STANDS AT A PLACE: the same bytes make the same piece, if what comes behind them does not go on with it. -/
theorem piece_same {s t : ByteArray} {k k' e : Nat} (hk : k < s.size) (he : k + e = after (itemAt s k)) (hsz : k' + e ≤ t.size) (hb : ∀ j, j < e → byteAt t (k' + j) = byteAt s (k + j))
    (ha : (cls (byteAt s k) = 2 ∨ cls (byteAt s k) = 4) → k' + e < t.size → isAlnum (byteAt t (k' + e)) = false)
    (hs : cls (byteAt s k) = 5 → e = 1 → k' + 1 < t.size → ¬ (byteAt s k = 58 ∧ byteAt t (k' + 1) = 61) ∧ ¬ (byteAt s k = 45 ∧ byteAt t (k' + 1) = 62))
    (hn : cls (byteAt s k) = 6 → k' + e < t.size → byteAt t (k' + e) = 10) : piece t k' = piece s k := by
  have haf := after_gt hk
  have hb0 : byteAt t k' = byteAt s k := by have := hb 0 (by omega); simpa using this
  have hwd : (cls (byteAt s k) = 2 ∨ cls (byteAt s k) = 4) → wordAt t k' = wordAt s k := fun h => by
    have hr := after_word hk h
    rw [← he] at hr
    have hr' : runEnd isAlnum t k' = k' + e := runEnd_eq e k' hsz (fun j hj => by
      rw [hb j hj]
      exact runEnd_mem _ k (k + j) rfl (by omega) (by omega) (by omega)) (ha h)
    unfold wordAt
    rw [hr', ← hr]
    exact extract_same (by omega) hsz hb
  unfold piece
  rw [hb0]
  by_cases h6 : cls (byteAt s k) = 6
  · rw [if_pos h6, if_pos h6]
    have hr := after_note hk h6
    rw [← he] at hr
    have hr' : runEnd notNL t (k' + 1) = k' + e := by
      rw [runEnd_eq (e - 1) (k' + 1) (by omega) (fun j hj => ?_) (fun hlt => ?_)]
      · omega
      · rw [show k' + 1 + j = k' + (j + 1) by omega, hb (j + 1) (by omega)]
        exact runEnd_mem _ (k + 1) (k + (j + 1)) rfl (by omega) (by omega) (by omega)
      · have := hn h6 (by omega)
        rw [show k' + 1 + (e - 1) = k' + e by omega, this]; rfl
    rw [hr', ← hr]
    have := extract_same (s := s) (t := t) (k := k + 1) (k' := k' + 1) (e := e - 1) (by omega) (by omega) (fun j hj => by
      have := hb (j + 1) (by omega)
      rwa [show k' + 1 + j = k' + (j + 1) by omega, show k + 1 + j = k + (j + 1) by omega])
    rw [show k' + 1 + (e - 1) = k' + e by omega, show k + 1 + (e - 1) = k + e by omega] at this
    rw [this]
  · rw [if_neg h6, if_neg h6]
    by_cases h2 : cls (byteAt s k) = 2
    · rw [if_pos h2, if_pos h2, hwd (.inl h2)]
    · rw [if_neg h2, if_neg h2]
      by_cases h4 : cls (byteAt s k) = 4
      · rw [if_pos h4, if_pos h4, hwd (.inr h4)]
      · rw [if_neg h4, if_neg h4]
        by_cases h5 : cls (byteAt s k) = 5
        · rw [if_pos h5, if_pos h5]
          have hr := after_sign hk h5
          rw [← he] at hr
          have htw : two t k' = two s k := by
            refine Bool.eq_iff_iff.2 ?_
            rw [two_iff, two_iff, hb0]
            have hr2 := hr
            unfold signEnd at hr2
            by_cases htw : two s k = true
            · rw [if_pos htw] at hr2
              have h1 := hb 1 (by omega)
              rw [two_iff] at htw
              rw [h1]
              exact ⟨fun _ => htw, fun h => ⟨by omega, h.2⟩⟩
            · rw [if_neg htw] at hr2
              have he1 : e = 1 := by omega
              have := hs h5 he1
              rw [two_iff] at htw
              exact ⟨fun h => by
                have := this h.1
                rcases h.2 with h2 | h2
                · exact absurd h2 this.1
                · exact absurd h2 this.2, fun h => absurd h htw⟩
          have hr' : signEnd t k' = k' + e := by
            unfold signEnd at hr ⊢
            rw [htw]
            split at hr <;> simp_all <;> omega
          rw [hr', ← hr, extract_same (by omega) hsz hb]
        · rw [if_neg h5, if_neg h5]
          have hr := after_idle hk h6 h2 h4 h5
          have he1 : e = 1 := by omega
          subst he1
          rw [extract_same (by omega) hsz hb]
theorem item_same {s t : ByteArray} {k k' : Nat} (h : piece t k' = piece s k) : itemAt t k' = { itemAt s k with pos := k' } := by unfold itemAt; rw [h]
theorem after_shift {x : Item} {k' : Nat} : after { x with pos := k' } + x.pos = after x + k' := by
  unfold after
  simp only
  omega
/-- Just behind what stands at a place, its own kind does not go on. -/
theorem piece_stops {s : ByteArray} {k e : Nat} (hk : k < s.size) (he : k + e = after (itemAt s k)) :
    ((cls (byteAt s k) = 2 ∨ cls (byteAt s k) = 4) → k + e < s.size → isAlnum (byteAt s (k + e)) = false) ∧
    (cls (byteAt s k) = 5 → e = 1 → k + 1 < s.size → ¬ (byteAt s k = 58 ∧ byteAt s (k + 1) = 61) ∧ ¬ (byteAt s k = 45 ∧ byteAt s (k + 1) = 62)) ∧
    (cls (byteAt s k) = 6 → k + e < s.size → byteAt s (k + e) = 10) := by
  refine ⟨fun h hlt => ?_, fun h5 he1 hlt => ?_, fun h6 hlt => ?_⟩
  · have hr := after_word hk h
    rw [← he] at hr
    rw [hr] at hlt ⊢
    exact runEnd_stops _ k rfl hlt
  · have hr := after_sign hk h5
    rw [← he, he1] at hr
    unfold signEnd at hr
    have ht : ¬ two s k = true := fun ht => by rw [if_pos ht] at hr; omega
    rw [two_iff] at ht
    exact ⟨fun h => ht ⟨hlt, .inl h⟩, fun h => ht ⟨hlt, .inr h⟩⟩
  · have hr := after_note hk h6
    rw [← he] at hr
    rw [hr] at hlt ⊢
    have h3 : (byteAt s (runEnd notNL s (k + 1)) != 10) = false := runEnd_stops _ (k + 1) rfl hlt
    simpa using h3
end Go.Proofs.YtchkngabppmbkaaDoor.Lx
