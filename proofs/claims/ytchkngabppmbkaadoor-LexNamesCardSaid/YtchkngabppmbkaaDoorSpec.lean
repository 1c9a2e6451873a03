/-
  PLAIN: the words of chapter 1 as functions on bytes and lists; no program.
-/
import Derived.Lib.Bytealg
namespace Go.Proofs.YtchkngabppmbkaaDoor.Lx

/-- The bytes that are a sign, each of them alone. -/
def signs : List UInt8 := [61, 60, 43, 45, 42, 33, 40, 41, 123, 125, 44, 59, 58, 46]
def isSign (c : UInt8) : Bool := signs.contains c
/-- The class of a byte: 0 none of a text, 1 blank, 2 small, 3 capital, 4 digit, 5 sign, 6 tilde, 7 idle. -/
def clsN (n : Nat) (sg : Bool) : Nat :=
  if n = 32 ∨ n = 10 then 1 else if 97 ≤ n ∧ n ≤ 122 then 2 else if 65 ≤ n ∧ n ≤ 90 then 3 else if 48 ≤ n ∧ n ≤ 57 then 4
  else if n = 126 then 6 else if sg then 5 else if 32 < n ∧ n < 126 then 7 else 0
def cls (c : UInt8) : Nat := clsN c.toNat (isSign c)
theorem cls_lt (c : UInt8) : cls c < 256 := by unfold cls clsN; (repeat' split) <;> omega

theorem indexByte_nonneg (l : List UInt8) (c : UInt8) : 0 ≤ Lib.indexByte l c ↔ l.contains c = true := by
  induction l with
  | nil => simp [Lib.indexByte]
  | cons b l ih =>
    have hg := Lib.indexByte_ge l c
    unfold Lib.indexByte
    by_cases hb : b = c
    · subst hb; simp
    · have hb' : (b == c) = false := by simpa using hb
      have hc' : (c == b) = false := by simpa using fun e => hb e.symm
      simp only [hb', List.contains_cons, hc', Bool.false_or, Bool.false_eq_true, if_false]
      rw [← ih]
      by_cases h1 : Lib.indexByte l c = -1
      · simp [h1]
      · have : (Lib.indexByte l c == -1) = false := by simpa using h1
        simp only [this, Bool.false_eq_true, if_false]; omega

/-- Where the bytes end that stand together from a place on and are so. -/
def runEnd (p : UInt8 → Bool) (s : ByteArray) (k : Nat) : Nat := k + ((s.data.toList.drop k).takeWhile p).length

theorem drop_cons (s : ByteArray) (k : Nat) (h : k < s.size) : s.data.toList.drop k = s[k] :: s.data.toList.drop (k + 1) := by
  rw [List.drop_eq_getElem_cons (by simpa using h)]; rfl
theorem runEnd_step {p : UInt8 → Bool} {s : ByteArray} {k : Nat} (h : k < s.size) (hp : p s[k] = true) : runEnd p s k = runEnd p s (k + 1) := by
  unfold runEnd; rw [drop_cons s k h, List.takeWhile_cons, if_pos hp, List.length_cons]; omega
theorem runEnd_stop {p : UInt8 → Bool} {s : ByteArray} {k : Nat} (h : k < s.size) (hp : p s[k] = false) : runEnd p s k = k := by
  unfold runEnd; rw [drop_cons s k h, List.takeWhile_cons, if_neg (by simp [hp])]; rfl
theorem runEnd_end {p : UInt8 → Bool} {s : ByteArray} {k : Nat} (h : s.size ≤ k) : runEnd p s k = k := by
  unfold runEnd; rw [List.drop_of_length_le (by simpa using h)]; rfl
theorem runEnd_le {p : UInt8 → Bool} {s : ByteArray} {k : Nat} (h : k ≤ s.size) : runEnd p s k ≤ s.size := by
  unfold runEnd
  have h1 := (List.takeWhile_sublist (l := s.data.toList.drop k) p).length_le
  have h2 : s.data.toList.length = s.size := by simp
  rw [List.length_drop, h2] at h1; omega
theorem runEnd_ge {p : UInt8 → Bool} {s : ByteArray} {k : Nat} : k ≤ runEnd p s k := by unfold runEnd; omega

/-- A text's bytes: what may stand in one. -/
def isText (c : UInt8) : Bool := cls c != 0

/-- The error of a text, and where: (place, code). -/
def textErr (s : ByteArray) : Nat × Nat :=
  if 2500 < s.size then (0, 5) else if runEnd isText s 0 < s.size then (runEnd isText s 0, 2) else (0, 0)
end Go.Proofs.YtchkngabppmbkaaDoor.Lx
