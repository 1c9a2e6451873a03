/-
  PLAIN: the shortest text with some tokens.
-/
import Derived.Test.YtchkngabppmbkaaDoorSpecQ
import Derived.Test.YtchkngabppmbkaaDoorSpecM
namespace Go.Proofs.YtchkngabppmbkaaDoor.Lx

def colon : ByteArray := ⟨#[58]⟩
def equals : ByteArray := ⟨#[61]⟩
/-- Are two tokens read otherwise if nothing stands between them? -/
def clashT (x y : Tk) : Bool := if x.kind = 4 ∨ y.kind = 4 then decide (x.text = colon ∧ y.text = equals) else true
def sepT : Option Tk → Tk → List UInt8
  | none, _ => []
  | some p, x => if clashT p x then [32] else []
def tightF : Option Tk → List Tk → List UInt8
  | _, [] => []
  | p, x :: xs => sepT p x ++ (x.text.data.toList ++ tightF (some x) xs)
def listErr (l : List Tk) : Nat := if 900 < l.length then 5 else if l.all tokOk = false then 2 else 0
/-- What lex.Tight returns. -/
def tightOf (l : List Tk) : ByteArray × Nat :=
  if listErr l ≠ 0 then (⟨#[]⟩, listErr l) else if 2500 < (tightF none l).length then (⟨#[]⟩, 5) else (⟨(tightF none l).toArray⟩, 0)

/-- What is so of a right token. -/
theorem tokOk_parts {x : Tk} (h : tokOk x = true) : 0 < x.text.size ∧ (piece x.text 0).2.2 = 0 ∧ ((piece x.text 0).1 : Int) = x.kind ∧ (piece x.text 0).2.1 = x.text := by
  unfold tokOk at h
  simp only [Bool.and_eq_true, decide_eq_true_eq] at h
  exact ⟨by omega, h.2.1, h.2.2.1, h.2.2.2⟩
theorem piece_kind (s : ByteArray) (k : Nat) : ((piece s k).1 = 5 ↔ cls (byteAt s k) = 6) ∧ ((piece s k).1 = 4 ↔ cls (byteAt s k) = 5) ∧ ((piece s k).1 = 0 ↔ cls (byteAt s k) ≠ 6 ∧ cls (byteAt s k) ≠ 2 ∧ cls (byteAt s k) ≠ 4 ∧ cls (byteAt s k) ≠ 5) := by
  unfold piece
  by_cases h6 : cls (byteAt s k) = 6
  · simp [h6]
  · by_cases h2 : cls (byteAt s k) = 2
    · cases hw : isWord (wordAt s k) <;> simp [h2]
    · by_cases h4 : cls (byteAt s k) = 4
      · simp [h4]
      · by_cases h5 : cls (byteAt s k) = 5
        · simp [h5]
        · simp [h6, h2, h4, h5]
theorem piece_err (s : ByteArray) (k : Nat) (h : (piece s k).2.2 = 0) : cls (byteAt s k) = 6 ∨ cls (byteAt s k) = 2 ∨ cls (byteAt s k) = 4 ∨ cls (byteAt s k) = 5 := by
  by_cases h6 : cls (byteAt s k) = 6
  · exact .inl h6
  · by_cases h2 : cls (byteAt s k) = 2
    · exact .inr (.inl h2)
    · by_cases h4 : cls (byteAt s k) = 4
      · exact .inr (.inr (.inl h4))
      · by_cases h5 : cls (byteAt s k) = 5
        · exact .inr (.inr (.inr h5))
        · unfold piece at h
          rw [if_neg h6, if_neg h2, if_neg h4, if_neg h5] at h
          cases h
theorem tokOk_cls {x : Tk} (h : tokOk x = true) : (cls (byteAt x.text 0) = 2 ∨ cls (byteAt x.text 0) = 4 ∨ cls (byteAt x.text 0) = 5) ∧ (x.kind = 4 ↔ cls (byteAt x.text 0) = 5) ∧ after (itemAt x.text 0) = x.text.size := by
  obtain ⟨h0, h1, h2, h3⟩ := tokOk_parts h
  have hk := piece_kind x.text 0
  have h6 : cls (byteAt x.text 0) ≠ 6 := fun h6 => by
    have hp : (piece x.text 0).2.1 = x.text.extract 1 (runEnd notNL x.text 1) := by unfold piece; rw [if_pos h6]
    rw [hp] at h3
    have := congrArg ByteArray.size h3
    rw [ByteArray.size_extract] at this
    omega
  refine ⟨?_, ?_, ?_⟩
  · rcases piece_err _ _ h1 with h | h | h | h
    · exact absurd h h6
    · exact .inl h
    · exact .inr (.inl h)
    · exact .inr (.inr h)
  · rw [← h2, ← hk.2.1]; omega
  · have h5 : (itemAt x.text 0).kind ≠ 5 := fun e => h6 (hk.1.1 e)
    unfold after
    rw [if_neg h5]
    show 0 + (piece x.text 0).2.1.size + 0 = _
    rw [h3]; omega
theorem cls_alnum {c : UInt8} (h : cls c = 2 ∨ cls c = 4) : isAlnum c = true := by unfold isAlnum; rcases h with h | h <;> rw [h] <;> rfl
theorem alnum_cls {c : UInt8} (h : isAlnum c = true) : cls c = 2 ∨ cls c = 3 ∨ cls c = 4 := by
  rw [alnum_byte] at h
  simp only [Bool.or_eq_true, beq_iff_eq] at h
  omega
/-- What stands in a token: no blank, nothing that is none of a text. -/
theorem item_bytes {s : ByteArray} {k j : Nat} (hk : k < s.size) (h : cls (byteAt s k) = 2 ∨ cls (byteAt s k) = 4 ∨ cls (byteAt s k) = 5) (hj : k ≤ j) (hja : j < after (itemAt s k)) : isBlank (byteAt s j) = false ∧ isText (byteAt s j) = true := by
  have key : ∀ c, (cls c = 2 ∨ cls c = 3 ∨ cls c = 4 ∨ cls c = 5 ∨ cls c = 7) → isBlank c = false ∧ isText c = true := fun c h => by
    unfold isBlank isText
    rcases h with h | h | h | h | h <;> rw [h] <;> exact ⟨rfl, rfl⟩
  have haf := after_gt hk
  by_cases h24 : cls (byteAt s k) = 2 ∨ cls (byteAt s k) = 4
  · rw [after_word hk h24] at hja
    have := alnum_cls (runEnd_mem (p := isAlnum) _ k j rfl hj hja (by omega))
    exact key _ (by omega)
  · have h5 : cls (byteAt s k) = 5 := by omega
    rw [after_sign hk h5] at hja
    unfold signEnd at hja
    by_cases ht : two s k = true
    · rw [if_pos ht] at hja
      rw [two_iff] at ht
      by_cases e : j = k
      · subst e; exact key _ (by omega)
      · obtain rfl : j = k + 1 := by omega
        refine key _ ?_
        rcases ht.2 with h | h <;> rw [h.2] <;> decide
    · rw [if_neg ht] at hja
      obtain rfl : j = k := by omega
      exact key _ (by omega)
theorem tokOk_bytes {x : Tk} (h : tokOk x = true) {c : UInt8} (hc : c ∈ x.text.data.toList) : isBlank c = false ∧ isText c = true := by
  obtain ⟨i, hi, rfl⟩ := List.getElem_of_mem hc
  have hz : i < x.text.size := by simpa using hi
  obtain ⟨h1, _, h3⟩ := tokOk_cls h
  have := item_bytes (s := x.text) (k := 0) (j := i) (tokOk_parts h).1 h1 (Nat.zero_le _) (by omega)
  rw [byteAt_eq _ _ hz] at this
  exact this
theorem allText_tightF : ∀ {l : List Tk} {p : Option Tk}, l.all tokOk = true → allText (tightF p l)
  | [], _, _ => fun c hc => by cases hc
  | x :: xs, p, h => by
    rw [List.all_cons, Bool.and_eq_true] at h
    unfold tightF
    refine allText_append (fun c hc => ?_) (allText_append (fun c hc => (tokOk_bytes h.1 hc).2) (allText_tightF h.2))
    unfold sepT at hc
    split at hc
    · cases hc
    · split at hc
      · rw [List.mem_singleton] at hc; subst hc; decide
      · cases hc

/-- Bytes of a list that stands in a text. -/
theorem byteAt_part {t : ByteArray} {pre m post : List UInt8} (h : t.data.toList = pre ++ (m ++ post)) {j : Nat} (hj : j < m.length) : byteAt t (pre.length + j) = m[j] := by
  unfold byteAt
  rw [h, List.getElem?_append_right (by omega), show pre.length + j - pre.length = j by omega, List.getElem?_append_left hj, List.getElem?_eq_getElem hj]; rfl
theorem byteAt_list {x : ByteArray} {j : Nat} (h : j < x.size) : x.data.toList[j]'(by simpa using h) = byteAt x j := (byteAt_eq x j h).symm
theorem single_text {x : ByteArray} {c : UInt8} (h1 : x.size = 1) (h : byteAt x 0 = c) : x = ⟨#[c]⟩ := by
  have := one_at x 0 (by omega)
  rw [← byteAt_eq x 0 (by omega), h] at this
  rw [← this]
  have h2 := extract_all x
  rw [h1] at h2
  exact h2.symm
/-- A right token in a text, where what comes behind it does not go on with it. -/
theorem tok_at {t : ByteArray} {x : Tk} {pre post : List UInt8} (hx : tokOk x = true) (h : t.data.toList = pre ++ (x.text.data.toList ++ post))
    (ha : x.kind ≠ 4 → ∀ c, post.head? = some c → isAlnum c = false)
    (hs : ∀ c, post.head? = some c → ¬ (x.text = colon ∧ c = 61) ∧ c ≠ 62) :
    pre.length < t.size ∧ isBlank (byteAt t pre.length) = false ∧ piece t pre.length = piece x.text 0 ∧ after (itemAt t pre.length) = pre.length + x.text.size := by
  obtain ⟨h0, h1, h2, h3⟩ := tokOk_parts hx
  obtain ⟨hc, hk4, haf⟩ := tokOk_cls hx
  have hl : x.text.data.toList.length = x.text.size := bytes_length _
  have hsz : t.size = pre.length + (x.text.size + post.length) := by rw [← bytes_length t, h, List.length_append, List.length_append, hl]
  have hb : ∀ j, j < x.text.size → byteAt t (pre.length + j) = byteAt x.text (0 + j) := fun j hj => by
    rw [byteAt_part h (by omega), byteAt_list hj, Nat.zero_add]
  have hpost : pre.length + x.text.size < t.size → post.head? = some (byteAt t (pre.length + x.text.size)) := fun hlt => by
    have : t.data.toList[pre.length + x.text.size]? = post[0]? := by
      rw [h, List.getElem?_append_right (by omega), List.getElem?_append_right (by omega)]
      congr 1; omega
    rw [byteAt_get hlt] at this
    rw [List.head?_eq_getElem?]; exact this.symm
  have hp := piece_same (s := x.text) (t := t) (k := 0) (k' := pre.length) (e := x.text.size) h0 (by omega) (by omega) hb
    (fun h24 hlt => ha (fun e => by have := hk4.1 e; omega) _ (hpost hlt))
    (fun h5 he hlt => by
      have := hs _ (hpost (by omega))
      rw [he] at this
      refine ⟨fun hh => this.1 ⟨single_text he hh.1, hh.2⟩, fun hh => this.2 hh.2⟩)
    (fun h6 => by omega)
  have hb0 : byteAt t pre.length = byteAt x.text 0 := by have := hb 0 h0; simpa using this
  refine ⟨by omega, ?_, hp, ?_⟩
  · rw [hb0]
    unfold isBlank
    rcases hc with h | h | h <;> rw [h] <;> rfl
  · have h4 := after_shift (x := itemAt x.text 0) (k' := pre.length)
    rw [← item_same hp] at h4
    have : (itemAt x.text 0).pos = 0 := rfl
    omega
/-- What follows a token in a tight text does not go on with it. -/
theorem tight_next {x : Tk} {xs : List Tk} (_ : tokOk x = true) (hxs : xs.all tokOk = true) : (x.kind ≠ 4 → ∀ c, (tightF (some x) xs).head? = some c → isAlnum c = false) ∧ (∀ c, (tightF (some x) xs).head? = some c → ¬ (x.text = colon ∧ c = 61) ∧ c ≠ 62) := by
  match xs, hxs with
  | [], _ =>
    refine ⟨fun _ c h => ?_, fun c h => ?_⟩
    · simp [tightF] at h
    · simp [tightF] at h
  | y :: ys, hxs =>
    rw [List.all_cons, Bool.and_eq_true] at hxs
    obtain ⟨hy0, hy1, hy2, hy3⟩ := tokOk_parts hxs.1
    obtain ⟨hyc, hy4, hyaf⟩ := tokOk_cls hxs.1
    have htf : tightF (some x) (y :: ys) = (if clashT x y then [32] else []) ++ (y.text.data.toList ++ tightF (some y) ys) := rfl
    rw [htf]
    cases hcl : clashT x y
    · rw [if_neg (by simp), List.nil_append]
      have hh : (y.text.data.toList ++ tightF (some y) ys).head? = some (byteAt y.text 0) := by
        rw [List.head?_eq_getElem?, List.getElem?_append_left (by rw [bytes_length]; omega), byteAt_get hy0]
      rw [hh]
      refine ⟨fun hk c hc => ?_, fun c hc => ?_⟩
      · cases hc
        have : y.kind = 4 := by
          unfold clashT at hcl
          by_cases h4 : y.kind = 4
          · exact h4
          · rw [if_neg (by omega)] at hcl; cases hcl
        have := hy4.1 this
        cases ha : isAlnum (byteAt y.text 0)
        · rfl
        · have := alnum_cls ha; omega
      · cases hc
        refine ⟨fun ⟨e1, e2⟩ => ?_, fun e => ?_⟩
        · have h5 : cls (byteAt y.text 0) = 5 := by rw [e2]; decide
          have hse := after_sign hy0 h5
          rw [hyaf] at hse
          unfold signEnd at hse
          have hnt : ¬ two y.text 0 = true := fun ht => by
            rw [two_iff] at ht
            rcases ht.2 with h | h <;> rw [h.1] at e2 <;> exact absurd e2 (by decide)
          rw [if_neg hnt] at hse
          have hye : y.text = equals := single_text (by omega) e2
          unfold clashT at hcl
          rw [if_pos (.inr (hy4.2 h5)), decide_eq_true ⟨e1, hye⟩] at hcl
          cases hcl
        · rw [e] at hyc
          exact absurd hyc (by decide)
    · rw [if_pos rfl]
      refine ⟨fun _ c hc => ?_, fun c hc => ?_⟩
      · have : c = 32 := (Option.some.inj hc).symm
        subst this; decide
      · have : c = 32 := (Option.some.inj hc).symm
        subst this
        exact ⟨fun h => absurd h.2 (by decide), by decide⟩

def Item.kt (x : Item) : Int × ByteArray := (x.kind, x.text)
def Tk.kt (x : Tk) : Int × ByteArray := (x.kind, x.text)
/-- The pieces of a tight text are its tokens. -/
theorem tight_pieces {t : ByteArray} : ∀ (l : List Tk) (p : Option Tk) (pre : List UInt8), l.all tokOk = true → t.data.toList = pre ++ tightF p l →
    (piecesAt t pre.length).map Item.kt = l.map Tk.kt ∧ ∀ x ∈ piecesAt t pre.length, x.err = 0 ∧ isTok x = true ∧ 0 < x.text.size
  | [], p, pre, _, h => by
    have : t.size = pre.length := by rw [← bytes_length t, h]; simp [tightF]
    rw [piecesAt_end (by omega)]
    exact ⟨rfl, fun x hx => by cases hx⟩
  | x :: xs, p, pre, hl, h => by
    rw [List.all_cons, Bool.and_eq_true] at hl
    have main : ∀ pre' : List UInt8, t.data.toList = pre' ++ (x.text.data.toList ++ tightF (some x) xs) → (piecesAt t pre'.length).map Item.kt = (x :: xs).map Tk.kt ∧ ∀ x ∈ piecesAt t pre'.length, x.err = 0 ∧ isTok x = true ∧ 0 < x.text.size := fun pre' h' => by
      obtain ⟨n1, n2⟩ := tight_next hl.1 hl.2
      obtain ⟨q1, q2, q3, q4⟩ := tok_at hl.1 h' n1 n2
      obtain ⟨h0, h1, h2, h3⟩ := tokOk_parts hl.1
      obtain ⟨hc, _, _⟩ := tokOk_cls hl.1
      rw [byteAt_eq t _ q1] at q2
      have ih := tight_pieces xs (some x) (pre' ++ x.text.data.toList) hl.2 (by rw [h', List.append_assoc])
      rw [List.length_append, bytes_length] at ih
      rw [piecesAt_item q1 q2, q4]
      have hkt : (itemAt t pre'.length).kt = x.kt := by
        unfold Item.kt Tk.kt itemAt
        rw [q3]
        show (((piece x.text 0).1 : Int), (piece x.text 0).2.1) = _
        rw [h2, h3]
      refine ⟨by rw [List.map_cons, List.map_cons, ih.1, hkt], fun y hy => ?_⟩
      rcases List.mem_cons.1 hy with rfl | hy
      · have hk := (piece_kind x.text 0).1
        refine ⟨by show (piece t _).2.2 = 0; rw [q3]; exact h1, ?_, by show 0 < (piece t _).2.1.size; rw [q3, h3]; exact h0⟩
        unfold isTok
        have : (itemAt t pre'.length).kind ≠ 5 := fun e => by
          have e' : (piece t pre'.length).1 = 5 := e
          rw [q3] at e'
          have := hk.1 e'
          omega
        simpa using this
      · exact ih.2 y hy
    unfold tightF sepT at h
    split at h
    · rw [List.nil_append] at h; exact main pre h
    · split at h
      · have hz : pre.length < t.size := by rw [← bytes_length t, h]; simp
        have h32 : byteAt t pre.length = 32 := by
          have := byteAt_part (m := [32]) h (j := 0) (by simp)
          simpa using this
        have hbl : isBlank t[pre.length] = true := by rw [← byteAt_eq t _ hz, h32]; decide
        rw [piecesAt_blank hz hbl]
        have := main (pre ++ [32]) (by rw [h, List.append_assoc])
        rw [List.length_append] at this
        exact this
      · rw [List.nil_append] at h; exact main pre h
theorem tokScan_all : ∀ (l acc : List Item), (∀ x ∈ l, x.err = 0 ∧ isTok x = true) → acc.length + l.length ≤ 900 → tokScan acc l = (acc ++ l, 0, 0)
  | [], acc, _, _ => by simp [tokScan]
  | x :: xs, acc, h, hz => by
    have hx := h x (.head _)
    rw [List.length_cons] at hz
    rw [scan_tok xs (by have := hx.2; unfold isTok at this; simpa using this) hx.1 (by omega), tokScan_all xs (acc ++ [x]) (fun y hy => h y (.tail _ hy)) (by rw [List.length_append, List.length_singleton]; omega), List.append_assoc]
    rfl
/-- P1.10: the tokens of a tight text. -/
theorem tokens_tight {l : List Tk} (h : (tightOf l).2 = 0) : (tokensOf (tightOf l).1).2.2 = 0 ∧ (toksOf (tightOf l).1).map Tk.kt = l.map Tk.kt ∧ (tokensOf (tightOf l).1).1 = pieces (tightOf l).1 ∧ (∀ x ∈ pieces (tightOf l).1, 0 < x.text.size) ∧
    l.all tokOk = true ∧ l.length ≤ 900 ∧ (tightOf l).1.data.toList = tightF none l ∧ (tightOf l).1.size ≤ 2500 := by
  unfold tightOf at h ⊢
  by_cases h1 : listErr l = 0
  · rw [if_neg (by omega)] at h ⊢
    by_cases h2 : 2500 < (tightF none l).length
    · rw [if_pos h2] at h; cases h
    · rw [if_neg h2]
      unfold listErr at h1
      have hn : ¬ 900 < l.length := fun e => by rw [if_pos e] at h1; cases h1
      rw [if_neg hn] at h1
      have hok : l.all tokOk = true := by
        cases ho : l.all tokOk
        · rw [ho] at h1; cases h1
        · rfl
      obtain ⟨t, ht⟩ : ∃ t : ByteArray, ⟨(tightF none l).toArray⟩ = t := ⟨_, rfl⟩
      have hd : t.data.toList = tightF none l := by rw [← ht]
      rw [ht]
      have hz : t.size = (tightF none l).length := by rw [← hd, bytes_length]
      obtain ⟨p1, p2⟩ := tight_pieces l none [] hok (by rw [hd]; rfl)
      have hte : textErr t = (0, 0) := textErr_none (by omega) (by rw [hd]; exact allText_tightF hok)
      have hlen : (pieces t).length = l.length := by
        have := congrArg List.length p1
        rw [List.length_map, List.length_map] at this
        exact this
      have htk : tokensOf t = (pieces t, 0, 0) := by
        unfold tokensOf
        rw [hte, if_neg (by simp), tokScan_all (pieces t) [] (fun x hx => ⟨(p2 x hx).1, (p2 x hx).2.1⟩) (by rw [hlen]; simp; omega)]
        rfl
      show (tokensOf t).2.2 = 0 ∧ (toksOf t).map Tk.kt = l.map Tk.kt ∧ (tokensOf t).1 = pieces t ∧ (∀ x ∈ pieces t, 0 < x.text.size) ∧ l.all tokOk = true ∧ l.length ≤ 900 ∧ t.data.toList = tightF none l ∧ t.size ≤ 2500
      refine ⟨by rw [htk], ?_, by rw [htk], fun x hx => (p2 x hx).2.2, hok, by omega, hd, by omega⟩
      unfold toksOf
      rw [htk, List.map_map]
      exact p1
  · rw [if_pos h1] at h
    exact absurd h h1
end Go.Proofs.YtchkngabppmbkaaDoor.Lx
