/-
  PLAIN: the tight text of a text's tokens is not longer.
-/
import Derived.Test.YtchkngabppmbkaaDoorSpecU
namespace Go.Proofs.YtchkngabppmbkaaDoor.Lx

theorem scan_errs : ∀ (l acc : List Item), (tokScan acc l).2.2 = 0 → ∀ x ∈ l, isTok x = true → x.err = 0
  | [], _, _, x, hx, _ => by cases hx
  | y :: ys, acc, h, x, hx, ht => by
    by_cases h5 : y.kind = 5
    · rw [scan_note ys h5] at h
      rcases List.mem_cons.1 hx with rfl | hx
      · unfold isTok at ht; rw [h5] at ht; cases ht
      · exact scan_errs ys acc h x hx ht
    · by_cases he : y.err = 0
      · by_cases hf : acc.length = 900
        · rw [scan_full ys h5 he hf] at h; cases h
        · rw [scan_tok ys h5 he hf] at h
          rcases List.mem_cons.1 hx with rfl | hx
          · exact he
          · exact scan_errs ys _ h x hx ht
      · rw [scan_err ys h5 he] at h; exact absurd h he
theorem tokens_errs {s : ByteArray} (h : (tokensOf s).2.2 = 0) : ∀ x ∈ pieces s, isTok x = true → x.err = 0 := by
  unfold tokensOf at h
  by_cases h1 : (textErr s).2 = 0
  · rw [if_neg (by omega)] at h
    exact scan_errs _ _ h
  · rw [if_pos h1] at h; exact absurd h h1
/-- A token of a text is right by itself. -/
theorem item_right {s : ByteArray} {k : Nat} (hk : k < s.size) (ht : isTok (itemAt s k) = true) (he : (itemAt s k).err = 0) : tokOk (itemAt s k).tk = true := by
  have haf := after_gt hk
  have hat := after_tok ht
  have hpos : (itemAt s k).pos = k := rfl
  obtain ⟨e, hke⟩ : ∃ e, k + e = after (itemAt s k) := ⟨after (itemAt s k) - k, by omega⟩
  have hsz : (itemAt s k).text.size = e := by omega
  have hx : (itemAt s k).text = s.extract k (k + e) := by
    have hk5 := (piece_kind s k).1
    have h6 : cls (byteAt s k) ≠ 6 := fun h6 => by
      have h5 : (itemAt s k).kind = 5 := hk5.2 h6
      unfold isTok at ht; rw [h5] at ht; cases ht
    show (piece s k).2.1 = _
    unfold piece
    rw [if_neg h6]
    by_cases h2 : cls (byteAt s k) = 2
    · have hw := after_word hk (.inl h2)
      rw [if_pos h2]
      have : (if isWord (wordAt s k) = true then ((3 : Nat), wordAt s k, 0) else (1, wordAt s k, nameErr (wordAt s k))).2.1 = wordAt s k := by split <;> rfl
      rw [this]; unfold wordAt; rw [← hw, hke]
    · rw [if_neg h2]
      by_cases h4 : cls (byteAt s k) = 4
      · have hw := after_word hk (.inr h4)
        rw [if_pos h4]
        show wordAt s k = _
        unfold wordAt; rw [← hw, hke]
      · rw [if_neg h4]
        by_cases h5 : cls (byteAt s k) = 5
        · have hw := after_sign hk h5
          rw [if_pos h5, ← hw, hke]
        · have hw := after_idle hk h6 h2 h4 h5
          rw [if_neg h5, ← hw, hke]
  have hb : ∀ j, j < e → byteAt (itemAt s k).text (0 + j) = byteAt s (k + j) := fun j hj => by
    rw [hx]
    unfold byteAt
    rw [extract_list, List.getElem?_take_of_lt (by omega), List.getElem?_drop, Nat.zero_add]
  have hp := piece_same (t := (itemAt s k).text) (k' := 0) hk hke (by omega) hb (fun _ hlt => by omega) (fun _ h1 hlt => by omega) (fun _ hlt => by omega)
  unfold tokOk Item.tk
  simp only [hp]
  have h1 : (itemAt s k).text.size ≠ 0 := by omega
  have h2 : (piece s k).2.2 = 0 := he
  simp only [Bool.and_eq_true, decide_eq_true_eq]
  exact ⟨h1, h2, rfl, rfl⟩
theorem items_right {s : ByteArray} : ∀ (n k : Nat), s.size - k ≤ n → (∀ x ∈ piecesAt s k, isTok x = true → x.err = 0) → (((piecesAt s k).filter isTok).map Item.tk).all tokOk = true
  | 0, k, h, _ => by rw [piecesAt_end (by omega)]; rfl
  | n + 1, k, h, he => by
    by_cases hk : k < s.size
    · by_cases hb : isBlank s[k] = true
      · rw [piecesAt_blank hk hb] at he ⊢
        exact items_right n (k + 1) (by omega) he
      · have hb : isBlank s[k] = false := by simpa using hb
        have haf := after_gt hk
        rw [piecesAt_item hk hb] at he ⊢
        have ih := items_right n (after (itemAt s k)) (by omega) (fun x hx => he x (.tail _ hx))
        rw [List.filter_cons]
        by_cases ht : isTok (itemAt s k) = true
        · rw [if_pos ht, List.map_cons, List.all_cons, ih, item_right hk ht (he _ (.head _) ht)]; rfl
        · rw [if_neg ht]; exact ih
    · rw [piecesAt_end (by omega)]; rfl
/-- Two tokens with nothing between them do not clash. -/
theorem close_calm {s : ByteArray} {k0 k : Nat} (h0 : k0 < s.size) (ht0 : isTok (itemAt s k0) = true) (he0 : (itemAt s k0).err = 0) (hk : after (itemAt s k0) = k) (hlt : k < s.size) (ht : isTok (itemAt s k) = true) (he : (itemAt s k).err = 0) :
    clashT (itemAt s k0).tk (itemAt s k).tk = false := by
  have haf := after_gt h0
  obtain ⟨e, hke⟩ : ∃ e, k0 + e = after (itemAt s k0) := ⟨after (itemAt s k0) - k0, by omega⟩
  obtain ⟨q1, q2, q3⟩ := piece_stops h0 hke
  have hek : k0 + e = k := by omega
  have hk0 := piece_kind s k0
  have hk1 := piece_kind s k
  have c0 := piece_err s k0 he0
  have c1 := piece_err s k he
  have n0 : cls (byteAt s k0) ≠ 6 := fun h6 => by
    have h5 : (itemAt s k0).kind = 5 := hk0.1.2 h6
    unfold isTok at ht0; rw [h5] at ht0; cases ht0
  have n1 : cls (byteAt s k) ≠ 6 := fun h6 => by
    have h5 : (itemAt s k).kind = 5 := hk1.1.2 h6
    unfold isTok at ht; rw [h5] at ht; cases ht
  have kk0 : (itemAt s k0).tk.kind = ((piece s k0).1 : Int) := rfl
  have kk1 : (itemAt s k).tk.kind = ((piece s k).1 : Int) := rfl
  unfold clashT
  by_cases h4 : (itemAt s k0).tk.kind = 4 ∨ (itemAt s k).tk.kind = 4
  · rw [if_pos h4, decide_eq_false_iff_not]
    rintro ⟨e1, e2⟩
    have e1' : (itemAt s k0).text = colon := e1
    have e2' : (itemAt s k).text = equals := e2
    have hs0 : e = 1 := by
      have := after_tok ht0
      have hp : (itemAt s k0).pos = k0 := rfl
      rw [e1'] at this
      have : colon.size = 1 := rfl
      omega
    have r0 := item_right h0 ht0 he0
    have r1 := item_right hlt ht he
    have b0 : byteAt s k0 = 58 := by
      have h5 : cls (byteAt s k0) = 5 := by
        have hq : isAlnum (58 : UInt8) = false := by decide
        rcases c0 with c | c | c | c
        · exact absurd c n0
        · exfalso
          have hw := after_word h0 (.inl c)
          have : (itemAt s k0).text = wordAt s k0 := by
            show (piece s k0).2.1 = _
            unfold piece; rw [if_neg n0, if_pos c]; split <;> rfl
          rw [e1'] at this
          have hbb := runEnd_mem (p := isAlnum) (s := s) _ k0 k0 rfl (Nat.le_refl _) (by omega) (by omega)
          have : byteAt colon 0 = byteAt s k0 := by
            rw [this]; unfold wordAt byteAt
            rw [extract_list, List.getElem?_take_of_lt (by omega), List.getElem?_drop]; rfl
          rw [← this] at hbb
          exact absurd hbb (by decide)
        · exfalso
          have hw := after_word h0 (.inr c)
          have : (itemAt s k0).text = wordAt s k0 := by
            show (piece s k0).2.1 = _
            unfold piece; rw [if_neg n0, if_neg (by omega), if_pos c]
          rw [e1'] at this
          have hbb := runEnd_mem (p := isAlnum) (s := s) _ k0 k0 rfl (Nat.le_refl _) (by omega) (by omega)
          have : byteAt colon 0 = byteAt s k0 := by
            rw [this]; unfold wordAt byteAt
            rw [extract_list, List.getElem?_take_of_lt (by omega), List.getElem?_drop]; rfl
          rw [← this] at hbb
          exact absurd hbb (by decide)
        · exact c
      have hse := after_sign h0 h5
      have : (itemAt s k0).text = s.extract k0 (signEnd s k0) := by
        show (piece s k0).2.1 = _
        unfold piece; rw [if_neg n0, if_neg (by omega), if_neg (by omega), if_pos h5]
      rw [e1'] at this
      have : byteAt colon 0 = byteAt s k0 := by
        rw [this]; unfold byteAt
        rw [extract_list, List.getElem?_take_of_lt (by omega), List.getElem?_drop]; rfl
      exact this.symm
    have b1 : byteAt s k = 61 := by
      have hts : ∃ m, (itemAt s k).text = s.extract k m ∧ k < m := by
        have hm := after_gt hlt
        rcases c1 with c | c | c | c
        · exact absurd c n1
        · refine ⟨runEnd isAlnum s k, ?_, by rw [after_word hlt (.inl c)] at hm; omega⟩
          show (piece s k).2.1 = _
          unfold piece; rw [if_neg n1, if_pos c]; split <;> rfl
        · refine ⟨runEnd isAlnum s k, ?_, by rw [after_word hlt (.inr c)] at hm; omega⟩
          show (piece s k).2.1 = _
          unfold piece; rw [if_neg n1, if_neg (by omega), if_pos c]; rfl
        · refine ⟨signEnd s k, ?_, by rw [after_sign hlt c] at hm; omega⟩
          show (piece s k).2.1 = _
          unfold piece; rw [if_neg n1, if_neg (by omega), if_neg (by omega), if_pos c]
      obtain ⟨m, hm, hkm⟩ := hts
      rw [e2'] at hm
      have : byteAt equals 0 = byteAt s k := by
        rw [hm]; unfold byteAt
        rw [extract_list, List.getElem?_take_of_lt (by omega), List.getElem?_drop]; rfl
      exact this.symm
    have h5 : cls (byteAt s k0) = 5 := by rw [b0]; decide
    have := (q2 h5 hs0 (by omega)).1
    exact this ⟨b0, by rw [show k0 + 1 = k by omega]; exact b1⟩
  · exfalso
    have a0 : cls (byteAt s k0) = 2 ∨ cls (byteAt s k0) = 4 := by
      rcases c0 with c | c | c | c
      · exact absurd c n0
      · exact .inl c
      · exact .inr c
      · have := hk0.2.1.2 c
        exact absurd (.inl (by rw [kk0, this]; rfl)) h4
    have a1 : cls (byteAt s k) = 2 ∨ cls (byteAt s k) = 4 := by
      rcases c1 with c | c | c | c
      · exact absurd c n1
      · exact .inl c
      · exact .inr c
      · have := hk1.2.1.2 c
        exact absurd (.inr (by rw [kk1, this]; rfl)) h4
    have := q1 a0 (by omega)
    rw [hek, cls_alnum a1] at this
    cases this
/-- How long the tight text is from a place on. -/
theorem tight_len {s : ByteArray} : ∀ (n k q : Nat) (p : Option Tk), s.size - k ≤ n → q ≤ k → k ≤ s.size → (∀ x ∈ piecesAt s k, isTok x = true → x.err = 0) →
    (q = k → p = none ∨ ∃ k0, k0 < s.size ∧ isTok (itemAt s k0) = true ∧ (itemAt s k0).err = 0 ∧ after (itemAt s k0) = k ∧ p = some (itemAt s k0).tk) →
    (tightF p (((piecesAt s k).filter isTok).map Item.tk)).length ≤ s.size - q
  | 0, k, q, p, h, _, _, _, _ => by rw [piecesAt_end (by omega)]; simp [tightF]
  | n + 1, k, q, p, h, hq, hks, he, hp => by
    by_cases hk : k < s.size
    · by_cases hb : isBlank s[k] = true
      · rw [piecesAt_blank hk hb] at he ⊢
        exact tight_len n (k + 1) q p (by omega) (by omega) (by omega) he (fun e => by omega)
      · have hb : isBlank s[k] = false := by simpa using hb
        have haf := after_gt hk
        rw [piecesAt_item hk hb] at he ⊢
        rw [List.filter_cons]
        by_cases ht : isTok (itemAt s k) = true
        · have he0 := he _ (.head _) ht
          rw [if_pos ht, List.map_cons]
          have ih := tight_len n (after (itemAt s k)) (after (itemAt s k)) (some (itemAt s k).tk) (by omega) (by omega) (by omega) (fun x hx => he x (.tail _ hx)) (fun _ => .inr ⟨k, hk, ht, he0, rfl, rfl⟩)
          have hat := after_tok ht
          have hpos : (itemAt s k).pos = k := rfl
          unfold tightF
          rw [List.length_append, List.length_append]
          have hl : (itemAt s k).tk.text.data.toList.length = (itemAt s k).text.size := bytes_length _
          rw [hl]
          have hsep : (sepT p (itemAt s k).tk).length ≤ k - q := by
            by_cases e : q = k
            · rcases hp e with rfl | ⟨k0, h0, h1, h2, h3, rfl⟩
              · simp [sepT]
              · have := close_calm h0 h1 h2 h3 hk ht he0
                have hz : sepT (some (itemAt s k0).tk) (itemAt s k).tk = [] := by
                  show (if clashT (itemAt s k0).tk (itemAt s k).tk then [32] else []) = []
                  rw [this]; rfl
                rw [hz]; simp
            · have : (sepT p (itemAt s k).tk).length ≤ 1 := by
                unfold sepT
                split
                · simp
                · split <;> simp
              omega
          omega
        · rw [if_neg ht]
          exact tight_len n (after (itemAt s k)) q p (by omega) (by omega) (by omega) (fun x hx => he x (.tail _ hx)) (fun e => by omega)
    · rw [piecesAt_end (by omega)]; simp [tightF]
/-- P1.10: the shortest text with the tokens of a text. -/
theorem shorter {s : ByteArray} (h : (tokensOf s).2.2 = 0) : (tightOf (toksOf s)).2 = 0 ∧ (tightOf (toksOf s)).1.size ≤ s.size := by
  obtain ⟨h1, h2, h3, h4, _⟩ := tokensOf_ok h
  have hE := tokens_errs h
  have hok : (toksOf s).all tokOk = true := by rw [toksOf_ok h]; exact items_right _ 0 (Nat.le_refl _) hE
  have hlen : (toksOf s).length ≤ 900 := by unfold toksOf; rw [List.length_map]; exact h4
  have hti : (tightF none (toksOf s)).length ≤ s.size := by
    rw [toksOf_ok h]
    exact tight_len _ 0 0 none (Nat.le_refl _) (Nat.le_refl _) (Nat.zero_le _) hE (fun _ => .inl rfl)
  have hle : listErr (toksOf s) = 0 := by
    unfold listErr
    rw [if_neg (by omega), hok, if_neg (by simp)]
  unfold tightOf
  rw [if_neg (by omega), if_neg (by omega)]
  refine ⟨rfl, ?_⟩
  show (⟨(tightF none (toksOf s)).toArray⟩ : ByteArray).size ≤ _
  rw [← bytes_length]
  exact hti
end Go.Proofs.YtchkngabppmbkaaDoor.Lx
