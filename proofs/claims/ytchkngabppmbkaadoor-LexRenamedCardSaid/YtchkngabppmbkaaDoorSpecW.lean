/-
  PLAIN: a renamed text, read and renamed back.
-/
import Derived.Test.YtchkngabppmbkaaDoorSpecV
import Derived.Test.YtchkngabppmbkaaDoorSpecO
namespace Go.Proofs.YtchkngabppmbkaaDoor.Lx

theorem tokScan_full : ∀ (l acc : List Item), (∀ x ∈ l, isTok x = true → x.err = 0) → acc.length + (l.filter isTok).length ≤ 900 → tokScan acc l = (acc ++ l.filter isTok, 0, 0)
  | [], acc, _, _ => by simp [tokScan]
  | x :: xs, acc, h, hz => by
    rw [List.filter_cons] at hz ⊢
    by_cases ht : isTok x = true
    · have h5 : x.kind ≠ 5 := by unfold isTok at ht; simpa using ht
      rw [if_pos ht] at hz ⊢
      rw [List.length_cons] at hz
      rw [scan_tok xs h5 (h x (.head _) ht) (by omega), tokScan_full xs (acc ++ [x]) (fun y hy => h y (.tail _ hy)) (by rw [List.length_append, List.length_singleton]; omega), List.append_assoc]
      rfl
    · have h5 : x.kind = 5 := by
        unfold isTok at ht
        simpa using ht
      rw [if_neg ht] at hz ⊢
      rw [scan_note xs h5, tokScan_full xs acc (fun y hy => h y (.tail _ hy)) hz]

/-- Tokens from a place on. -/
def toksAt (s : ByteArray) (k : Nat) : List Tk := ((piecesAt s k).filter isTok).map Item.tk
theorem toksAt_blank {s : ByteArray} {k : Nat} (hk : k < s.size) (hb : isBlank s[k] = true) : toksAt s k = toksAt s (k + 1) := by unfold toksAt; rw [piecesAt_blank hk hb]
theorem toksAt_tok {s : ByteArray} {k : Nat} (hk : k < s.size) (hb : isBlank s[k] = false) (ht : isTok (itemAt s k) = true) : toksAt s k = (itemAt s k).tk :: toksAt s (after (itemAt s k)) := by
  unfold toksAt; rw [piecesAt_item hk hb, List.filter_cons, if_pos ht]; rfl
theorem toksAt_note {s : ByteArray} {k : Nat} (hk : k < s.size) (hb : isBlank s[k] = false) (ht : isTok (itemAt s k) = false) : toksAt s k = toksAt s (after (itemAt s k)) := by
  unfold toksAt; rw [piecesAt_item hk hb, List.filter_cons, if_neg (by simp [ht])]
theorem places_ge {s : ByteArray} {k : Nat} {x : Tk} : ∀ p ∈ placesOf x (toksAt s k), (k : Int) ≤ p ∧ p ≤ s.size := fun p hp => by
  unfold placesOf toksAt at hp
  obtain ⟨y, hy, rfl⟩ := List.mem_map.1 hp
  obtain ⟨z, hz, rfl⟩ := List.mem_map.1 (List.mem_filter.1 hy).1
  have := piecesAt_ge z (List.mem_filter.1 hz).1
  show (k : Int) ≤ (z.pos : Int) ∧ (z.pos : Int) ≤ s.size
  omega
theorem bytes_split (s : ByteArray) {i j k : Nat} (h1 : i ≤ j) (h2 : j ≤ k) (h3 : k ≤ s.size) : (s.extract i k).data.toList = (s.extract i j).data.toList ++ (s.extract j k).data.toList := by
  rw [extract_list, extract_list, extract_list]
  have : s.data.toList.drop j = (s.data.toList.drop i).drop (j - i) := by rw [List.drop_drop]; congr 1; omega
  rw [this, show k - i = (j - i) + (k - j) by omega, List.take_add]
theorem renOut_step {s name : ByteArray} {m : Int} {q q' : Nat} {ps : List Int} (h1 : q ≤ q') (h2 : q' ≤ s.size) (hp : ∀ p ∈ ps, (q' : Int) ≤ p ∧ p ≤ s.size) : renOut s name m q ps = (s.extract q q').data.toList ++ renOut s name m q' ps := by
  match ps, hp with
  | [], _ =>
    unfold renOut
    simp only [Int.toNat_natCast]
    exact bytes_split s h1 h2 (Nat.le_refl _)
  | p :: ps, hp =>
    have := hp p (.head _)
    unfold renOut
    simp only [Int.toNat_natCast]
    rw [bytes_split s h1 (show q' ≤ p.toNat by omega) (by omega), List.append_assoc]
theorem isName_parts {x : ByteArray} (h : tokOk (nameTk x) = true) : 0 < x.size ∧ cls (byteAt x 0) = 2 ∧ piece x 0 = (1, x, 0) ∧ after (itemAt x 0) = x.size := by
  obtain ⟨h0, h1, h2, h3⟩ := tokOk_parts h
  obtain ⟨hc, _, haf⟩ := tokOk_cls h
  have h2' : ((piece x 0).1 : Int) = 1 := h2
  have hk := piece_kind x 0
  have h1' : (piece x 0).2.2 = 0 := h1
  have h3' : (piece x 0).2.1 = x := h3
  refine ⟨h0, ?_, ?_, haf⟩
  · have hc' : cls (byteAt x 0) = 2 ∨ cls (byteAt x 0) = 4 ∨ cls (byteAt x 0) = 5 := hc
    rcases hc' with c | c | c
    · exact c
    · exfalso
      have : (piece x 0).1 = 2 := by unfold piece; rw [if_neg (by omega), if_neg (by omega), if_pos c]
      omega
    · have := hk.2.1.2 c; omega
  · refine Prod.ext (by show (piece x 0).1 = 1; omega) (Prod.ext h3' h1')
def isOld (old : ByteArray) (x : Item) : Prop := x.kind = 1 ∧ x.text = old
instance (old : ByteArray) (x : Item) : Decidable (isOld old x) := by unfold isOld; infer_instance
/-- What becomes of a token's kind and text. -/
def renKt (old name : ByteArray) (x : Item) : Int × ByteArray := if isOld old x then (1, name) else x.kt
def renAt (s old name : ByteArray) (k : Nat) : List UInt8 := renOut s name old.size k (placesOf (nameTk old) (toksAt s k))
theorem renAt_end {s old name : ByteArray} {k : Nat} (h : k = s.size) : renAt s old name k = [] := by
  subst h
  unfold renAt toksAt
  rw [piecesAt_end (Nat.le_refl _)]
  unfold placesOf renOut
  simp
theorem one_byte {s : ByteArray} {k : Nat} (hk : k < s.size) : (s.extract k (k + 1)).data.toList = [byteAt s k] := by rw [one_at s k hk, byteAt_eq s k hk]
theorem renAt_blank {s old name : ByteArray} {k : Nat} (hk : k < s.size) (hb : isBlank s[k] = true) : renAt s old name k = byteAt s k :: renAt s old name (k + 1) := by
  unfold renAt
  rw [toksAt_blank hk hb, renOut_step (q := k) (q' := k + 1) (by omega) (by omega) places_ge, one_byte hk]; rfl
theorem places_other {s x : ByteArray} {k : Nat} (hk : k < s.size) (hb : isBlank s[k] = false) (ho : ¬ isOld x (itemAt s k)) : placesOf (nameTk x) (toksAt s k) = placesOf (nameTk x) (toksAt s (after (itemAt s k))) := by
  cases ht : isTok (itemAt s k)
  · rw [toksAt_note hk hb ht]
  · rw [toksAt_tok hk hb ht, placesOf_cons, if_neg]
    rintro ⟨h1, h2⟩
    refine ho ⟨?_, h2⟩
    have h1' : ((itemAt s k).kind : Int) = 1 := h1
    omega
theorem renAt_other {s old name : ByteArray} {k : Nat} (hk : k < s.size) (hb : isBlank s[k] = false) (ho : ¬ isOld old (itemAt s k)) : renAt s old name k = (s.extract k (after (itemAt s k))).data.toList ++ renAt s old name (after (itemAt s k)) := by
  have haf := after_gt hk
  unfold renAt
  rw [places_other hk hb ho, renOut_step (q := k) (q' := after (itemAt s k)) (by omega) (by omega) places_ge]
theorem old_tok {x : Item} {old : ByteArray} (h : isOld old x) : isTok x = true := by unfold isTok; rw [h.1]; rfl
theorem places_old {s x : ByteArray} {k : Nat} (hk : k < s.size) (hb : isBlank s[k] = false) (ho : isOld x (itemAt s k)) : placesOf (nameTk x) (toksAt s k) = (k : Int) :: placesOf (nameTk x) (toksAt s (after (itemAt s k))) := by
  rw [toksAt_tok hk hb (old_tok ho), placesOf_cons, if_pos]
  · rfl
  · refine ⟨?_, ho.2⟩
    show ((itemAt s k).kind : Int) = 1
    rw [ho.1]; rfl
theorem renAt_old {s old name : ByteArray} {k : Nat} (hk : k < s.size) (hb : isBlank s[k] = false) (ho : isOld old (itemAt s k)) : renAt s old name k = name.data.toList ++ renAt s old name (after (itemAt s k)) := by
  have hat := after_tok (old_tok ho)
  have hpos : (itemAt s k).pos = k := rfl
  rw [ho.2, hpos] at hat
  unfold renAt
  rw [places_old hk hb ho]
  have hro : ∀ ps, renOut s name old.size (k : Int) ((k : Int) :: ps) = (s.extract k k).data.toList ++ (name.data.toList ++ renOut s name old.size ((k : Int) + old.size) ps) := fun ps => by
    show (s.extract ((k : Int)).toNat ((k : Int)).toNat).data.toList ++ _ = _
    simp only [Int.toNat_natCast]
  rw [hro, hat, Int.natCast_add]
  simp
/-- The first byte of what a rest becomes. -/
theorem renAt_head {s old name : ByteArray} {k : Nat} (hk : k ≤ s.size) (hn : tokOk (nameTk name) = true) : ∀ c, (renAt s old name k).head? = some c → k < s.size ∧ ((isBlank (byteAt s k) = true ∧ c = byteAt s k) ∨ c = byteAt s k ∨ (isOld old (itemAt s k) ∧ isBlank (byteAt s k) = false ∧ c = byteAt name 0)) := by
  intro c hc
  by_cases he : k = s.size
  · rw [renAt_end he] at hc; cases hc
  · have hlt : k < s.size := by omega
    refine ⟨hlt, ?_⟩
    by_cases hb : isBlank s[k] = true
    · rw [renAt_blank hlt hb] at hc
      exact .inr (.inl (by simpa using hc.symm))
    · have hb : isBlank s[k] = false := by simpa using hb
      have haf := after_gt hlt
      by_cases ho : isOld old (itemAt s k)
      · rw [renAt_old hlt hb ho] at hc
        obtain ⟨h0, _, _, _⟩ := isName_parts hn
        rw [List.head?_eq_getElem?, List.getElem?_append_left (by rw [bytes_length]; exact h0), byteAt_get h0] at hc
        exact .inr (.inr ⟨ho, by rw [byteAt_eq s k hlt]; exact hb, (Option.some.inj hc).symm⟩)
      · rw [renAt_other hlt hb ho] at hc
        have : (s.extract k (after (itemAt s k))).data.toList = byteAt s k :: (s.extract (k + 1) (after (itemAt s k))).data.toList := by
          rw [bytes_split s (show k ≤ k + 1 by omega) (by omega) haf.2, one_byte hlt]; rfl
        rw [this] at hc
        exact .inr (.inl (by simpa using hc.symm))
theorem head_next {t : ByteArray} {pre m post : List UInt8} (h : t.data.toList = pre ++ (m ++ post)) (hlt : pre.length + m.length < t.size) : post.head? = some (byteAt t (pre.length + m.length)) := by
  have : t.data.toList[pre.length + m.length]? = post[0]? := by
    rw [h, List.getElem?_append_right (by omega), List.getElem?_append_right (by omega)]
    congr 1; omega
  rw [byteAt_get hlt] at this
  rw [List.head?_eq_getElem?]; exact this.symm
theorem old_cls {s old : ByteArray} {k : Nat} (h : isOld old (itemAt s k)) : cls (byteAt s k) = 2 := by
  have h1 : (piece s k).1 = 1 := h.1
  have hk := piece_kind s k
  by_cases h2 : cls (byteAt s k) = 2
  · exact h2
  · exfalso
    by_cases h6 : cls (byteAt s k) = 6
    · have := hk.1.2 h6; omega
    · by_cases h4 : cls (byteAt s k) = 4
      · have : (piece s k).1 = 2 := by unfold piece; rw [if_neg h6, if_neg h2, if_pos h4]
        omega
      · by_cases h5 : cls (byteAt s k) = 5
        · have := hk.2.1.2 h5; omega
        · have := hk.2.2.2 ⟨h6, h2, h4, h5⟩; omega

/-- A renamed text, piece by piece: its tokens, and what it is when it is renamed back. -/
theorem ren_sim {s t old name : ByteArray} (hold : tokOk (nameTk old) = true) (hname : tokOk (nameTk name) = true) : ∀ (n k : Nat) (pre : List UInt8), s.size - k ≤ n → k ≤ s.size →
    (∀ x ∈ piecesAt s k, isTok x = true → x.err = 0) → placesOf (nameTk name) (toksAt s k) = [] → t.data.toList = pre ++ renAt s old name k →
    ((piecesAt t pre.length).filter isTok).map Item.kt = ((piecesAt s k).filter isTok).map (renKt old name) ∧ (∀ x ∈ piecesAt t pre.length, isTok x = true → x.err = 0) ∧
    renAt t name old pre.length = (s.extract k s.size).data.toList ∧ (placesOf (nameTk name) (toksAt t pre.length)).length = (placesOf (nameTk old) (toksAt s k)).length
  | n, k, pre, hn, hk, hE, hP, ht => by
    have htz : t.size = pre.length + (renAt s old name k).length := by rw [← bytes_length t, ht, List.length_append]
    by_cases he : k = s.size
    · rw [renAt_end he] at htz
      have : pre.length = t.size := by simpa using htz.symm
      rw [renAt_end this, he]
      unfold toksAt
      rw [piecesAt_end (by omega), piecesAt_end (Nat.le_refl _)]
      exact ⟨rfl, fun x hx => by (cases hx), by simp, rfl⟩
    · have hlt : k < s.size := by omega
      match n, hn with
      | 0, hn => omega
      | n + 1, hn =>
        by_cases hb : isBlank s[k] = true
        · rw [renAt_blank hlt hb] at ht htz
          have hzt : pre.length < t.size := by rw [htz, List.length_cons]; omega
          have hbt : byteAt t pre.length = byteAt s k := by
            have := byteAt_part (m := [byteAt s k]) (post := renAt s old name (k + 1)) (by rw [ht]; rfl) (j := 0) (by simp)
            simpa using this
          have hbl : isBlank t[pre.length] = true := by rw [← byteAt_eq t _ hzt, hbt, byteAt_eq s k hlt]; exact hb
          rw [toksAt_blank hlt hb] at hP
          rw [piecesAt_blank hlt hb] at hE
          have ih := ren_sim hold hname n (k + 1) (pre ++ [byteAt s k]) (by omega) (by omega) hE hP (by rw [ht]; simp)
          rw [List.length_append, List.length_singleton] at ih
          rw [piecesAt_blank hzt hbl, piecesAt_blank hlt hb, toksAt_blank hzt hbl, toksAt_blank hlt hb, renAt_blank hzt hbl, ih.2.2.1]
          refine ⟨ih.1, ih.2.1, ?_, ih.2.2.2⟩
          rw [bytes_split s (show k ≤ k + 1 by omega) (by omega) (Nat.le_refl _), one_byte hlt, hbt]; rfl
        · have hb : isBlank s[k] = false := by simpa using hb
          have haf := after_gt hlt
          have hbk : isBlank (byteAt s k) = false := by rw [byteAt_eq s k hlt]; exact hb
          obtain ⟨e, hke⟩ : ∃ e, k + e = after (itemAt s k) := ⟨after (itemAt s k) - k, by omega⟩
          obtain ⟨q1, q2, q3⟩ := piece_stops hlt hke
          have hE' : ∀ x ∈ piecesAt s (after (itemAt s k)), isTok x = true → x.err = 0 := fun x hx => hE x (by rw [piecesAt_item hlt hb]; exact .tail _ hx)
          have hnn : ¬ isOld name (itemAt s k) := fun ho => by rw [places_old hlt hb ho] at hP; cases hP
          have hP' := hP
          rw [places_other hlt hb hnn] at hP'
          have hhead := renAt_head (s := s) (old := old) (name := name) (k := after (itemAt s k)) haf.2 hname
          have hnc := (isName_parts hname).2.1
          by_cases ho : isOld old (itemAt s k)
          · rw [renAt_old hlt hb ho] at ht htz
            obtain ⟨n0, n1, n2, n3⟩ := isName_parts hname
            have hln : name.data.toList.length = name.size := bytes_length _
            rw [List.length_append, hln] at htz
            have hbn : ∀ j, j < name.size → byteAt t (pre.length + j) = byteAt name (0 + j) := fun j hj => by rw [byteAt_part ht (by omega), byteAt_list hj, Nat.zero_add]
            have hc2 := old_cls ho
            have hp := piece_same (s := name) (t := t) (k := 0) (k' := pre.length) (e := name.size) n0 (by omega) (by omega) hbn
              (fun _ hlt2 => by
                have hh := head_next ht (by rw [hln]; exact hlt2)
                rw [hln] at hh
                obtain ⟨r1, r2⟩ := hhead _ hh
                rw [← hke] at r1
                have hna := q1 (.inl hc2) r1
                rw [hke] at hna
                rcases r2 with ⟨_, r2⟩ | r2 | ⟨r2, _, _⟩
                · rw [r2]; exact hna
                · rw [r2]; exact hna
                · rw [cls_alnum (.inl (old_cls r2))] at hna; cases hna)
              (fun h5 => by omega) (fun h6 => by omega)
            have hzt : pre.length < t.size := by omega
            have hb0 : byteAt t pre.length = byteAt name 0 := by have := hbn 0 n0; simpa using this
            have hblt : isBlank t[pre.length] = false := by rw [← byteAt_eq t _ hzt, hb0]; unfold isBlank; rw [n1]; rfl
            have hoT : isOld name (itemAt t pre.length) := by
              refine ⟨?_, ?_⟩
              · show (piece t pre.length).1 = 1
                rw [hp, n2]
              · show (piece t pre.length).2.1 = name
                rw [hp, n2]
            have haT : after (itemAt t pre.length) = pre.length + name.size := by
              rw [after_tok (old_tok hoT), hoT.2]; rfl
            have ih := ren_sim hold hname n (after (itemAt s k)) (pre ++ name.data.toList) (by omega) haf.2 hE' hP' (by rw [ht, List.append_assoc])
            rw [List.length_append, hln] at ih
            have hat := after_tok (old_tok ho)
            rw [ho.2] at hat
            refine ⟨?_, fun x hx => ?_, ?_, ?_⟩
            · rw [piecesAt_item hzt hblt, piecesAt_item hlt hb, List.filter_cons, if_pos (old_tok hoT), List.filter_cons, if_pos (old_tok ho), List.map_cons, List.map_cons, haT, ih.1]
              congr 1
              unfold renKt
              rw [if_pos ho]
              show ((((itemAt t pre.length).kind : Int)), (itemAt t pre.length).text) = _
              rw [hoT.1, hoT.2]; rfl
            · rw [piecesAt_item hzt hblt] at hx
              rcases List.mem_cons.1 hx with rfl | hx
              · intro _
                show (piece t pre.length).2.2 = 0
                rw [hp, n2]
              · rw [haT] at hx
                exact ih.2.1 x hx
            · rw [renAt_old hzt hblt hoT, haT, ih.2.2.1]
              rw [bytes_split s (show k ≤ after (itemAt s k) by omega) haf.2 (Nat.le_refl _)]
              congr 1
              have hox : (itemAt s k).text = s.extract k (after (itemAt s k)) := by
                show (piece s k).2.1 = _
                unfold piece
                rw [if_neg (by omega), if_pos hc2, after_word hlt (.inl hc2)]
                split <;> rfl
              rw [← hox, ho.2]
            · rw [places_old hzt hblt hoT, places_old hlt hb ho, List.length_cons, List.length_cons, haT, ih.2.2.2]
          · rw [renAt_other hlt hb ho] at ht htz
            have hlm : (s.extract k (after (itemAt s k))).data.toList.length = e := by rw [bytes_length, ByteArray.size_extract]; omega
            rw [List.length_append, hlm] at htz
            have hbe : ∀ j, j < e → byteAt t (pre.length + j) = byteAt s (k + j) := fun j hj => by
              unfold byteAt
              rw [ht, List.getElem?_append_right (by omega), show pre.length + j - pre.length = j by omega, List.getElem?_append_left (by rw [hlm]; exact hj), extract_list, List.getElem?_take_of_lt (by omega), List.getElem?_drop]
            have hnx : pre.length + e < t.size → k + e < s.size ∧ (byteAt t (pre.length + e) = byteAt s (k + e) ∨ (cls (byteAt s (k + e)) = 2 ∧ cls (byteAt t (pre.length + e)) = 2)) := fun hl2 => by
              have hh := head_next ht (by rw [hlm]; exact hl2)
              rw [hlm] at hh
              obtain ⟨r1, r2⟩ := hhead _ hh
              rw [hke]
              refine ⟨r1, ?_⟩
              rcases r2 with ⟨_, r2⟩ | r2 | ⟨r2, _, r3⟩
              · exact .inl r2
              · exact .inl r2
              · exact .inr ⟨old_cls r2, by rw [r3]; exact hnc⟩
            have hp := piece_same (s := s) (t := t) (k := k) (k' := pre.length) (e := e) hlt hke (by omega) hbe
              (fun h24 hl2 => by
                obtain ⟨r1, r2⟩ := hnx hl2
                have hna := q1 h24 r1
                rcases r2 with r2 | ⟨r2, _⟩
                · rw [r2]; exact hna
                · rw [cls_alnum (.inl r2)] at hna; cases hna)
              (fun h5 h1 hl2 => by
                subst h1
                obtain ⟨r1, r2⟩ := hnx hl2
                have hns := q2 h5 rfl r1
                rcases r2 with r2 | ⟨_, r3⟩
                · rw [r2]; exact hns
                · refine ⟨fun hh => ?_, fun hh => ?_⟩
                  · rw [hh.2] at r3; exact absurd r3 (by decide)
                  · rw [hh.2] at r3; exact absurd r3 (by decide))
              (fun h6 hl2 => by
                obtain ⟨r1, r2⟩ := hnx hl2
                have hnl := q3 h6 r1
                rcases r2 with r2 | ⟨r2, _⟩
                · rw [r2]; exact hnl
                · rw [hnl] at r2; exact absurd r2 (by decide))
            have hzt : pre.length < t.size := by omega
            have hb0 : byteAt t pre.length = byteAt s k := by have := hbe 0 (by omega); simpa using this
            have hblt : isBlank t[pre.length] = false := by rw [← byteAt_eq t _ hzt, hb0]; exact hbk
            have hkd : (itemAt t pre.length).kind = (itemAt s k).kind := by show (piece t _).1 = _; rw [hp]; rfl
            have htx : (itemAt t pre.length).text = (itemAt s k).text := by show (piece t _).2.1 = _; rw [hp]; rfl
            have her : (itemAt t pre.length).err = (itemAt s k).err := by show (piece t _).2.2 = _; rw [hp]; rfl
            have hto : isTok (itemAt t pre.length) = isTok (itemAt s k) := by unfold isTok; rw [hkd]
            have haT : after (itemAt t pre.length) = pre.length + e := by
              have h1 := after_shift (x := itemAt s k) (k' := pre.length)
              rw [← item_same hp] at h1
              have : (itemAt s k).pos = k := rfl
              omega
            have hnT : ¬ isOld name (itemAt t pre.length) := fun h => hnn ⟨by rw [← hkd]; exact h.1, by rw [← htx]; exact h.2⟩
            have ih := ren_sim hold hname n (after (itemAt s k)) (pre ++ (s.extract k (after (itemAt s k))).data.toList) (by omega) haf.2 hE' hP' (by rw [ht, List.append_assoc])
            rw [List.length_append, hlm] at ih
            have hkt : (itemAt t pre.length).kt = renKt old name (itemAt s k) := by
              unfold renKt
              rw [if_neg ho]
              unfold Item.kt
              rw [hkd, htx]
            refine ⟨?_, fun x hx => ?_, ?_, ?_⟩
            · rw [piecesAt_item hzt hblt, piecesAt_item hlt hb, List.filter_cons, List.filter_cons, hto, haT]
              by_cases hti : isTok (itemAt s k) = true
              · rw [if_pos hti, if_pos hti, List.map_cons, List.map_cons, ih.1, hkt]
              · rw [if_neg hti, if_neg hti, ih.1]
            · rw [piecesAt_item hzt hblt] at hx
              rcases List.mem_cons.1 hx with rfl | hx
              · intro hti
                rw [her]
                exact hE _ (by rw [piecesAt_item hlt hb]; exact .head _) (by rw [← hto]; exact hti)
              · rw [haT] at hx
                exact ih.2.1 x hx
            · rw [renAt_other hzt hblt hnT, haT, ih.2.2.1]
              rw [bytes_split s (show k ≤ after (itemAt s k) by omega) haf.2 (Nat.le_refl _), ← hke]
              congr 1
              rw [extract_same (s := s) (t := t) (by omega) (by omega) hbe]
            · rw [places_other hzt hblt hnT, places_other hlt hb ho, haT, ih.2.2.2]
end Go.Proofs.YtchkngabppmbkaaDoor.Lx
