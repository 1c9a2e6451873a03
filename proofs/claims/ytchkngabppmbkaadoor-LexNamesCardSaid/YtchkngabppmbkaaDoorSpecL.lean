/-
  PLAIN: the reference's way of reading tokens.
-/
import Derived.Test.YtchkngabppmbkaaDoorSpecC
namespace Go.Proofs.YtchkngabppmbkaaDoor.Lx

theorem small_byte (c : UInt8) : (cls c == 2) = (decide (97 ≤ c.toNat) && decide (c.toNat ≤ 122)) := by
  have h : ∀ n : Fin 256, (cls (UInt8.ofNat n.val) == 2) = (decide (97 ≤ n.val) && decide (n.val ≤ 122)) := by decide +kernel
  simpa using h ⟨c.toNat, c.toNat_lt⟩
theorem digit_byte (c : UInt8) : (cls c == 4) = (decide (48 ≤ c.toNat) && decide (c.toNat ≤ 57)) := by
  have h : ∀ n : Fin 256, (cls (UInt8.ofNat n.val) == 4) = (decide (48 ≤ n.val) && decide (n.val ≤ 57)) := by decide +kernel
  simpa using h ⟨c.toNat, c.toNat_lt⟩
theorem capital_byte (c : UInt8) : (cls c == 3) = (decide (65 ≤ c.toNat) && decide (c.toNat ≤ 90)) := by
  have h : ∀ n : Fin 256, (cls (UInt8.ofNat n.val) == 3) = (decide (65 ≤ n.val) && decide (n.val ≤ 90)) := by decide +kernel
  simpa using h ⟨c.toNat, c.toNat_lt⟩
theorem sign_byte (c : UInt8) : (cls c == 5) = isSign c := by
  have h : ∀ n : Fin 256, (cls (UInt8.ofNat n.val) == 5) = isSign (UInt8.ofNat n.val) := by decide +kernel
  have := h ⟨c.toNat, c.toNat_lt⟩
  simpa using this
theorem alnum_byte (c : UInt8) : isAlnum c = (cls c == 2 || cls c == 3 || cls c == 4) := by
  unfold isAlnum
  have : ∀ n, [2, 3, 4].contains n = (n == 2 || n == 3 || n == 4) := fun n => by simp [List.contains, List.elem, Bool.or_assoc]; cases n == 2 <;> cases n == 3 <;> cases n == 4 <;> rfl
  exact this _
theorem digit_eq (c : UInt8) : isDigit c = (cls c == 4) := by
  unfold isDigit
  have : ∀ n, [4].contains n = (n == 4) := fun n => by simp [List.contains, List.elem]; cases n == 4 <;> rfl
  exact this _

theorem beq_bytes (a b : ByteArray) : (a == b) = decide (a = b) := by
  obtain ⟨a⟩ := a; obtain ⟨b⟩ := b
  show (a == b) = _
  by_cases h : a = b <;> simp [h]
def signTexts : List ByteArray := [⟨#[58, 61]⟩, ⟨#[45, 62]⟩, ⟨#[61]⟩, ⟨#[60]⟩, ⟨#[43]⟩, ⟨#[45]⟩, ⟨#[42]⟩, ⟨#[33]⟩, ⟨#[40]⟩, ⟨#[41]⟩, ⟨#[123]⟩, ⟨#[125]⟩, ⟨#[44]⟩, ⟨#[59]⟩, ⟨#[58]⟩, ⟨#[46]⟩]
/-- Does a text stand at a place? -/
def begins (s : ByteArray) (k : Nat) (t : ByteArray) : Bool := decide (k + t.size ≤ s.size) && decide (s.extract k (k + t.size) = t)
theorem extract_list (s : ByteArray) (i j : Nat) : (s.extract i j).data.toList = (s.data.toList.drop i).take (j - i) := by
  simp [ByteArray.data_extract, Array.toList_extract, List.extract_eq_take_drop]
theorem array_list {a : ByteArray} {l : List UInt8} (h : a.data.toList = l) : a = ⟨l.toArray⟩ := by
  apply ByteArray.ext; apply Array.toList_inj.1; simpa using h
theorem one_at (s : ByteArray) (k : Nat) (hk : k < s.size) : s.extract k (k + 1) = ⟨#[s[k]]⟩ := by
  have := drop_cons s k hk
  refine array_list ?_
  rw [extract_list, this, Nat.add_sub_cancel_left, List.take_succ_cons, List.take_zero]
theorem begins_one (s : ByteArray) (k : Nat) (hk : k < s.size) (b : UInt8) : begins s k ⟨#[b]⟩ = (s[k] == b) := by
  unfold begins
  have h1 : (ByteArray.mk #[b]).size = 1 := rfl
  rw [h1, one_at s k hk, decide_eq_true (by omega : k + 1 ≤ s.size), Bool.true_and]
  by_cases e : s[k] = b
  · simp [e]
  · have : ¬ (ByteArray.mk #[s[k]] = ByteArray.mk #[b]) := fun h => by
      have := congrArg (fun x => x.data.toList) h
      simp at this
      exact e this
    rw [decide_eq_false this]
    simp [e]
theorem begins_two (s : ByteArray) (k : Nat) (a b : UInt8) : begins s k ⟨#[a, b]⟩ = Lib.hasPrefix (s.extract k s.size).data.toList [a, b] := by
  unfold begins Lib.hasPrefix
  have h1 : (ByteArray.mk #[a, b]).size = 2 := rfl
  rw [h1]
  have hl : (s.extract k s.size).data.toList = s.data.toList.drop k := by rw [extract_list, List.take_of_length_le (by simp)]
  have hlen : (s.data.toList.drop k).length = s.size - k := by simp
  rw [hl, Bool.eq_iff_iff, Bool.and_eq_true, decide_eq_true_eq, decide_eq_true_eq, List.isPrefixOf_iff_prefix]
  constructor
  · rintro ⟨h2, h3⟩
    have h4 := congrArg (fun x => x.data.toList) h3
    simp only [extract_list] at h4
    rw [show k + 2 - k = 2 by omega] at h4
    rw [show [a, b] = (s.data.toList.drop k).take 2 from h4.symm]
    exact List.take_prefix _ _
  · intro h
    have h2 := h.length_le
    rw [hlen] at h2
    refine ⟨by simp at h2; omega, ?_⟩
    have h3 := List.prefix_iff_eq_take.1 h
    refine array_list ?_
    rw [extract_list, show k + 2 - k = 2 by omega, h3]
    rfl
theorem find_one (s : ByteArray) (k : Nat) (hk : k < s.size) : ∀ l : List UInt8, (l.map (fun b => (⟨#[b]⟩ : ByteArray))).find? (begins s k) = if l.contains s[k] then some (s.extract k (k + 1)) else none
  | [] => rfl
  | b :: l => by
    rw [List.map_cons, List.find?_cons, begins_one s k hk, find_one s k hk l]
    by_cases e : s[k] = b
    · rw [one_at s k hk]
      simp [e]
    · have : (s[k] == b) = false := by simpa using e
      rw [this]
      simp only [List.contains_cons, this, Bool.false_or]
theorem find_sign (s : ByteArray) (k : Nat) (hk : k < s.size) : signTexts.find? (begins s k) = if cls s[k] = 5 then some (s.extract k (signEnd s k)) else none := by
  have hsig : signTexts = ⟨#[58, 61]⟩ :: ⟨#[45, 62]⟩ :: signs.map (fun b => (⟨#[b]⟩ : ByteArray)) := by
    have : signs.map (fun b => (⟨#[b]⟩ : ByteArray)) = [⟨#[61]⟩, ⟨#[60]⟩, ⟨#[43]⟩, ⟨#[45]⟩, ⟨#[42]⟩, ⟨#[33]⟩, ⟨#[40]⟩, ⟨#[41]⟩, ⟨#[123]⟩, ⟨#[125]⟩, ⟨#[44]⟩, ⟨#[59]⟩, ⟨#[58]⟩, ⟨#[46]⟩] := rfl
    rw [this]; rfl
  have h5 : (cls s[k] = 5) ↔ signs.contains s[k] = true := by
    have := sign_byte s[k]
    unfold isSign at this
    rw [← this, beq_iff_eq]
  have hw : ∀ b, begins s k ⟨#[58, b]⟩ = true ∨ begins s k ⟨#[45, b]⟩ = true → cls s[k] = 5 := fun b h => by
    have hp : ∀ a, begins s k ⟨#[a, b]⟩ = true → s[k] = a := fun a ha => by
      rw [begins_two] at ha
      unfold Lib.hasPrefix at ha
      have h1 := List.isPrefixOf_iff_prefix.1 ha
      have hl : (s.extract k s.size).data.toList = s.data.toList.drop k := by rw [extract_list, List.take_of_length_le (by simp)]
      rw [hl, drop_cons s k hk] at h1
      exact (List.cons_prefix_cons.1 h1).1.symm
    rcases h with h | h
    · rw [hp _ h]; decide
    · rw [hp _ h]; decide
  rw [hsig, List.find?_cons, List.find?_cons, find_one s k hk]
  unfold signEnd two
  rw [← begins_two, ← begins_two]
  cases h1 : begins s k ⟨#[58, 61]⟩
  · cases h2 : begins s k ⟨#[45, 62]⟩
    · simp only [Bool.or_false, Bool.false_eq_true, if_false]
      by_cases e : cls s[k] = 5
      · rw [if_pos e, if_pos (h5.1 e)]
      · rw [if_neg e, if_neg (fun h => e (h5.2 h))]
    · have e := hw _ (.inr h2)
      simp only [Bool.or_true, if_true, e]
      unfold begins at h2
      rw [Bool.and_eq_true, decide_eq_true_eq] at h2
      have := of_decide_eq_true h2.2
      rw [show (ByteArray.mk #[45, 62]).size = 2 from rfl] at this
      rw [this]
  · have e := hw _ (.inl h1)
    simp only [Bool.true_or, if_true, e]
    unfold begins at h1
    rw [Bool.and_eq_true, decide_eq_true_eq] at h1
    have := of_decide_eq_true h1.2
    rw [show (ByteArray.mk #[58, 61]).size = 2 from rfl] at this
    rw [this]

/-- What the reference reads at a place: kind, text, error (nothing with an error). -/
def refPiece (s : ByteArray) (k : Nat) : Nat × ByteArray × Nat :=
  if cls (byteAt s k) = 6 then (0, ⟨#[]⟩, 4) else if (piece s k).2.2 = 0 then piece s k else (0, ⟨#[]⟩, (piece s k).2.2)
theorem val_snoc (acc : Nat) (l : List UInt8) (c : UInt8) : val acc (l ++ [c]) = val acc l * 10 + (c.toNat - 48) := by unfold val; rw [List.foldl_append]; rfl
end Go.Proofs.YtchkngabppmbkaaDoor.Lx
