/-
  PLAIN: tokens, comments, keywords.
-/
import Derived.Test.YtchkngabppmbkaaDoorSpec
import Derived.Lib.Strings
import Derived.Lib.AtoiAllCases
namespace Go.Proofs.YtchkngabppmbkaaDoor.Lx
/-- The keywords. -/
def words : List ByteArray := [⟨#[97, 110, 100]⟩, ⟨#[97, 115]⟩, ⟨#[98, 111, 111, 108]⟩, ⟨#[99, 101, 108, 108]⟩, ⟨#[99, 104, 111, 111, 115, 101]⟩, ⟨#[99, 111, 109]⟩, ⟨#[100, 101, 102]⟩, ⟨#[100, 111]⟩, ⟨#[101, 108, 115, 101]⟩, ⟨#[101, 120, 112, 111, 114, 116]⟩, ⟨#[102, 97, 108, 115, 101]⟩, ⟨#[102, 110]⟩, ⟨#[103, 101, 116]⟩, ⟨#[104, 97, 110, 103]⟩, ⟨#[105, 102]⟩, ⟨#[105, 109, 112, 111, 114, 116]⟩, ⟨#[105, 110]⟩, ⟨#[105, 110, 116]⟩, ⟨#[106, 117, 109, 112]⟩, ⟨#[108, 97, 98, 101, 108]⟩, ⟨#[110, 101, 119]⟩, ⟨#[110, 111, 116]⟩, ⟨#[110, 111, 116, 105, 99, 101]⟩, ⟨#[111, 102]⟩, ⟨#[111, 114]⟩, ⟨#[112, 117, 116]⟩, ⟨#[115, 107, 105, 112]⟩, ⟨#[116, 104, 101, 110]⟩, ⟨#[116, 114, 117, 101]⟩, ⟨#[119, 104, 105, 108, 101]⟩]
def isWord (t : ByteArray) : Bool := words.contains t

/-- A byte that is no line feed. -/
def notNL (c : UInt8) : Bool := c != 10

theorem indexByte_tw (l : List UInt8) (c : UInt8) : (Lib.indexByte l c = ((l.takeWhile (fun x => x != c)).length : Int) ∧ (l.takeWhile (fun x => x != c)).length < l.length) ∨ (Lib.indexByte l c = -1 ∧ l.takeWhile (fun x => x != c) = l) := by
  induction l with
  | nil => exact .inr ⟨rfl, rfl⟩
  | cons b l ih =>
    unfold Lib.indexByte
    by_cases hb : b = c
    · subst hb; left; simp
    · have hb' : (b == c) = false := by simpa using hb
      have hn : (b != c) = true := by simpa using hb
      simp only [hb', Bool.false_eq_true, if_false, List.takeWhile_cons, hn, if_true, List.length_cons]
      rcases ih with ⟨h1, h2⟩ | ⟨h1, h2⟩
      · left
        have h3 : (Lib.indexByte l c == -1) = false := by rw [h1, beq_eq_false_iff_ne]; omega
        simp only [h3, Bool.false_eq_true, if_false]; rw [h1]; omega
      · right
        have h3 : (Lib.indexByte l c == -1) = true := by rw [h1]; rfl
        simp only [h3, if_true]; rw [h2]; exact ⟨trivial, rfl⟩

theorem extract_all (s : ByteArray) : s.extract 0 s.size = s := by
  apply ByteArray.ext; simp
theorem nl_cases (r : ByteArray) : (∃ i : Nat, Lib.indexByte r.data.toList 10 = (i : Int) ∧ i < r.size ∧ runEnd notNL r 0 = i) ∨ (Lib.indexByte r.data.toList 10 = -1 ∧ runEnd notNL r 0 = r.size) := by
  have hl : r.data.toList.length = r.size := by simp
  rcases indexByte_tw r.data.toList 10 with ⟨h1, h2⟩ | ⟨h1, h2⟩
  · exact .inl ⟨_, h1, by omega, by unfold runEnd notNL; simp⟩
  · refine .inr ⟨h1, ?_⟩
    unfold runEnd notNL
    rw [List.drop_zero, h2, hl]; omega
/-- A line's end, seen from within what is left of the text. -/
theorem runEnd_extract (p : UInt8 → Bool) (s : ByteArray) (k : Nat) (_hk : k ≤ s.size) : k + runEnd p (s.extract k s.size) 0 = runEnd p s k := by
  unfold runEnd
  have : (s.extract k s.size).data.toList = s.data.toList.drop k := by
    simp [ByteArray.data_extract, Array.toList_extract, List.extract_eq_take_drop]
    rw [List.take_of_length_le (by simp)]
  rw [List.drop_zero, this]; omega
theorem extract_tail (s : ByteArray) (k i : Nat) (hi : k + i ≤ s.size) : (s.extract k s.size).extract 0 i = s.extract k (k + i) := by
  rw [ByteArray.extract_extract]; congr 1; omega

/-- Does a sign of two bytes stand at a place? -/
def two (s : ByteArray) (k : Nat) : Bool := Lib.hasPrefix (s.extract k s.size).data.toList [58, 61] || Lib.hasPrefix (s.extract k s.size).data.toList [45, 62]
def signEnd (s : ByteArray) (k : Nat) : Nat := if two s k then k + 2 else k + 1
theorem hasPrefix_two {l : List UInt8} {a b : UInt8} (h : Lib.hasPrefix l [a, b] = true) : 2 ≤ l.length := by
  unfold Lib.hasPrefix at h
  have := (List.isPrefixOf_iff_prefix.1 h).length_le
  simpa using this
theorem two_le {s : ByteArray} {k : Nat} (h : two s k = true) : k + 2 ≤ s.size := by
  have h1 : 2 ≤ (s.extract k s.size).data.toList.length := by
    unfold two at h
    rw [Bool.or_eq_true] at h
    rcases h with h | h <;> exact hasPrefix_two h
  have h2 : (s.extract k s.size).data.toList.length = s.size - k := by simp
  omega

/-- The error of a name's bytes, if it is no keyword. -/
def nameErr (t : ByteArray) : Nat := if 12 < t.size then 4 else 0

/-- What digits spell. -/
def val (acc : Nat) (l : List UInt8) : Nat := l.foldl (fun n c => n * 10 + (c.toNat - 48)) acc
theorem val_ge : ∀ (l : List UInt8) (acc : Nat), acc ≤ val acc l
  | [], _ => Nat.le_refl _
  | c :: l, acc => Nat.le_trans (by omega) (val_ge l (acc * 10 + (c.toNat - 48)))
theorem parse_val : ∀ (l : List UInt8) (acc : Nat), (∀ c ∈ l, 48 ≤ c.toNat ∧ c.toNat ≤ 57) →
    Lib.parseUint10 acc l = .ok (val acc l) ∨ (Lib.parseUint10 acc l = .range ∧ 18446744073709551616 ≤ val acc l)
  | [], _, _ => .inl rfl
  | c :: l, acc, h => by
    have hc := h c (.head _)
    unfold Lib.parseUint10
    rw [if_pos hc]
    have hg := val_ge l (acc * 10 + (c.toNat - 48))
    have hv : val acc (c :: l) = val (acc * 10 + (c.toNat - 48)) l := rfl
    by_cases h1 : 1844674407370955162 ≤ acc
    · rw [if_pos h1]; exact .inr ⟨rfl, by omega⟩
    · rw [if_neg h1]
      by_cases h2 : 18446744073709551616 ≤ acc * 10 + (c.toNat - 48)
      · rw [if_pos h2]; exact .inr ⟨rfl, by omega⟩
      · rw [if_neg h2, hv]
        exact parse_val l _ fun x hx => h x (.tail _ hx)
theorem atoi_val (l : List UInt8) (h0 : l ≠ []) (h : ∀ c ∈ l, 48 ≤ c.toNat ∧ c.toNat ≤ 57) :
    (Lib.atoiAll l = .ok (val 0 l : Nat) ∧ val 0 l < 9223372036854775808) ∨ (Lib.atoiAll l = .range ∧ 9223372036854775808 ≤ val 0 l) := by
  match l, h0 with
  | c :: r, _ =>
    have hc := h c (.head _)
    rw [Lib.atoiAll_plain c r (by omega) (by omega), Lib.parseMag, if_neg (by simp)]
    rcases parse_val (c :: r) 0 h with h1 | ⟨h1, h2⟩
    · rw [h1]; unfold Lib.signless
      by_cases hb : 9223372036854775808 ≤ val 0 (c :: r)
      · simp [hb]
      · simp [hb]; omega
    · rw [h1]; unfold Lib.signless; right; exact ⟨rfl, by omega⟩

def isDigit (c : UInt8) : Bool := [4].contains (cls c)
theorem isDigit_iff (c : UInt8) : isDigit c = true ↔ 48 ≤ c.toNat ∧ c.toNat ≤ 57 := by
  unfold isDigit cls clsN
  rw [List.contains_iff_mem, List.mem_singleton]
  (repeat' split) <;> omega
theorem all_of_run {p : UInt8 → Bool} {s : ByteArray} (h : runEnd p s 0 = s.size) : ∀ c ∈ s.data.toList, p c = true := by
  unfold runEnd at h
  rw [List.drop_zero] at h
  have h1 : s.data.toList.takeWhile p = s.data.toList := (List.takeWhile_sublist p).eq_of_length (by simpa using h)
  intro c hc
  rw [← h1] at hc
  exact (List.all_takeWhile (l := s.data.toList) (p := p) |> List.all_eq_true.1) c hc

/-- The error of a number's bytes. -/
def numErr (t : ByteArray) : Nat :=
  if runEnd isDigit t 0 ≠ t.size ∨ (1 < t.size ∧ t.data.toList.head? = some 48) then 4 else if 1000000 < val 0 t.data.toList then 3 else 0
theorem head_eq (t : ByteArray) (h : 0 < t.size) : t.data.toList.head? = some 48 ↔ t[0].toNat = 48 := by
  have h1 : t.data.toList = t[0] :: t.data.toList.drop 1 := by simpa using drop_cons t 0 h
  have h2 : t.data.toList.head? = some t[0] := by rw [h1]; rfl
  rw [h2, Option.some.injEq]
  exact ⟨fun e => by rw [e]; rfl, fun e => UInt8.toNat_inj.1 e⟩
theorem numErr_digits (t : ByteArray) (h : 0 < t.size) (hA : runEnd isDigit t 0 = t.size) :
    numErr t = if 1 < t.size ∧ t[0].toNat = 48 then 4 else if 1000000 < val 0 t.data.toList then 3 else 0 := by
  unfold numErr
  have := head_eq t h
  by_cases h1 : 1 < t.size ∧ t[0].toNat = 48
  · rw [if_pos h1, if_pos (.inr ⟨h1.1, this.2 h1.2⟩)]
  · rw [if_neg h1, if_neg (fun e => by
      rcases e with e | e
      · exact e hA
      · exact h1 ⟨e.1, this.1 e.2⟩)]

def byteAt (s : ByteArray) (k : Nat) : UInt8 := s.data.toList[k]?.getD 0
theorem byteAt_eq (s : ByteArray) (k : Nat) (h : k < s.size) : byteAt s k = s[k] := by
  unfold byteAt
  rw [List.getElem?_eq_getElem (by simpa using h)]; rfl
def isAlnum (c : UInt8) : Bool := [2, 3, 4].contains (cls c)
def wordAt (s : ByteArray) (k : Nat) : ByteArray := s.extract k (runEnd isAlnum s k)
/-- The comment or the token at a place: kind, bytes, error. -/
def piece (s : ByteArray) (k : Nat) : Nat × ByteArray × Nat :=
  if cls (byteAt s k) = 6 then (5, s.extract (k + 1) (runEnd notNL s (k + 1)), 0)
  else if cls (byteAt s k) = 2 then (if isWord (wordAt s k) then (3, wordAt s k, 0) else (1, wordAt s k, nameErr (wordAt s k)))
  else if cls (byteAt s k) = 4 then (2, wordAt s k, numErr (wordAt s k))
  else if cls (byteAt s k) = 5 then (4, s.extract k (signEnd s k), 0)
  else (0, s.extract k (k + 1), 4)

/-- A token or a comment as it is handed on: kind, bytes, place, error. -/
structure Item where
  kind : Nat
  text : ByteArray
  pos : Nat
  err : Nat
  deriving DecidableEq
def itemAt (s : ByteArray) (k : Nat) : Item := { kind := (piece s k).1, text := (piece s k).2.1, pos := k, err := (piece s k).2.2 }
def isBlank (c : UInt8) : Bool := [1].contains (cls c)
def after (x : Item) : Nat := x.pos + x.text.size + (if x.kind = 5 then 1 else 0)
def piecesFrom (s : ByteArray) : Nat → Nat → List Item
  | 0, _ => []
  | f + 1, k => if k < s.size then (if isBlank (byteAt s k) then piecesFrom s f (k + 1) else itemAt s k :: piecesFrom s f (after (itemAt s k))) else []
/-- The comments and the tokens from a place on. -/
def piecesAt (s : ByteArray) (k : Nat) : List Item := piecesFrom s (s.size - k) k
def pieces (s : ByteArray) : List Item := piecesAt s 0

theorem wordAt_size {s : ByteArray} {k : Nat} (hk : k < s.size) (h : isAlnum s[k] = true) : 0 < (wordAt s k).size ∧ k + (wordAt s k).size ≤ s.size := by
  have hle := runEnd_le (p := isAlnum) (s := s) (k := k) (by omega)
  have hge : k < runEnd isAlnum s k := by
    rw [runEnd_step hk h]; have := runEnd_ge (p := isAlnum) (s := s) (k := k + 1); omega
  unfold wordAt
  rw [ByteArray.size_extract]; omega
theorem after_gt {s : ByteArray} {k : Nat} (hk : k < s.size) : k < after (itemAt s k) ∧ after (itemAt s k) ≤ s.size := by
  have hal : ∀ c, (cls c = 2 ∨ cls c = 4) → isAlnum c = true := fun c h => by unfold isAlnum; rcases h with h | h <;> rw [h] <;> rfl
  unfold itemAt after piece
  rw [byteAt_eq s k hk]
  by_cases h6 : cls s[k] = 6
  · simp only [h6, if_true]
    have hle := runEnd_le (p := notNL) (s := s) (k := k + 1) (by omega)
    have hge := runEnd_ge (p := notNL) (s := s) (k := k + 1)
    rw [ByteArray.size_extract]; omega
  · rw [if_neg h6]
    by_cases h2 : cls s[k] = 2
    · have hw := wordAt_size hk (hal _ (.inl h2))
      rw [if_pos h2]
      cases isWord (wordAt s k) <;> simp <;> omega
    · rw [if_neg h2]
      by_cases h4 : cls s[k] = 4
      · have hw := wordAt_size hk (hal _ (.inr h4))
        rw [if_pos h4]; simp; omega
      · rw [if_neg h4]
        by_cases h5 : cls s[k] = 5
        · rw [if_pos h5]
          have : k < signEnd s k ∧ signEnd s k ≤ s.size := by
            unfold signEnd
            cases ht : two s k
            · simp; omega
            · have := two_le ht; simp; omega
          simp; omega
        · rw [if_neg h5]; simp; omega
theorem piecesFrom_fuel (s : ByteArray) : ∀ (f k : Nat), s.size - k ≤ f → piecesFrom s f k = piecesAt s k
  | 0, k, h => by unfold piecesAt; rw [show s.size - k = 0 by omega]
  | f + 1, k, h => by
    by_cases hk : k < s.size
    · obtain ⟨g, hg⟩ : ∃ g, s.size - k = g + 1 := ⟨s.size - k - 1, by omega⟩
      have ha := after_gt hk
      unfold piecesAt
      rw [hg]
      unfold piecesFrom
      rw [if_pos hk, if_pos hk, piecesFrom_fuel s f (k + 1) (by omega), piecesFrom_fuel s f _ (by omega), piecesFrom_fuel s g (k + 1) (by omega), piecesFrom_fuel s g _ (by omega)]
    · unfold piecesAt
      rw [show s.size - k = 0 by omega]
      unfold piecesFrom
      rw [if_neg hk]
termination_by f _ => f
theorem piecesAt_end {s : ByteArray} {k : Nat} (h : s.size ≤ k) : piecesAt s k = [] := by unfold piecesAt; rw [show s.size - k = 0 by omega]; rfl
theorem piecesAt_blank {s : ByteArray} {k : Nat} (hk : k < s.size) (hb : isBlank s[k] = true) : piecesAt s k = piecesAt s (k + 1) := by
  rw [← piecesFrom_fuel s (s.size + 1) k (by omega)]
  unfold piecesFrom
  rw [if_pos hk, byteAt_eq s k hk, if_pos hb, piecesFrom_fuel s _ _ (by omega)]
theorem piecesAt_item {s : ByteArray} {k : Nat} (hk : k < s.size) (hb : isBlank s[k] = false) : piecesAt s k = itemAt s k :: piecesAt s (after (itemAt s k)) := by
  rw [← piecesFrom_fuel s (s.size + 1) k (by omega)]
  unfold piecesFrom
  have := after_gt hk
  rw [if_pos hk, byteAt_eq s k hk, if_neg (by simp [hb]), piecesFrom_fuel s _ _ (by omega)]
theorem piecesFrom_length (s : ByteArray) : ∀ (f k : Nat), (piecesFrom s f k).length ≤ f
  | 0, _ => Nat.le_refl _
  | f + 1, k => by
    unfold piecesFrom
    split
    · split
      · exact Nat.le_succ_of_le (piecesFrom_length s f _)
      · simp only [List.length_cons]; exact Nat.succ_le_succ (piecesFrom_length s f _)
    · simp
theorem pieces_length (s : ByteArray) : (pieces s).length ≤ s.size := by unfold pieces piecesAt; exact piecesFrom_length s _ _
end Go.Proofs.YtchkngabppmbkaaDoor.Lx
