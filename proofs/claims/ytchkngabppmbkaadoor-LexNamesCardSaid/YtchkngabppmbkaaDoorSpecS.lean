/-
  PLAIN: lines and columns.
-/
import Derived.Test.YtchkngabppmbkaaDoorSpecC
namespace Go.Proofs.YtchkngabppmbkaaDoor.Lx

/-- The line and the column of a place. -/
def spotAt (s : ByteArray) : Nat → Nat × Nat
  | 0 => (1, 1)
  | k + 1 => if byteAt s k = 10 then ((spotAt s k).1 + 1, 1) else ((spotAt s k).1, (spotAt s k).2 + 1)
theorem spotAt_le (s : ByteArray) : ∀ k, 1 ≤ (spotAt s k).1 ∧ (spotAt s k).1 ≤ k + 1 ∧ 1 ≤ (spotAt s k).2 ∧ (spotAt s k).2 ≤ k + 1
  | 0 => by simp [spotAt]
  | k + 1 => by
    have := spotAt_le s k
    unfold spotAt
    split <;> simp only <;> omega
theorem spotAt_step (s : ByteArray) (k : Nat) : (spotAt s k).1 < (spotAt s (k + 1)).1 ∨ ((spotAt s k).1 = (spotAt s (k + 1)).1 ∧ (spotAt s k).2 < (spotAt s (k + 1)).2) := by
  have h : spotAt s (k + 1) = if byteAt s k = 10 then ((spotAt s k).1 + 1, 1) else ((spotAt s k).1, (spotAt s k).2 + 1) := rfl
  rw [h]
  split
  · left; simp
  · right; simp
theorem spotAt_lt (s : ByteArray) : ∀ (d k : Nat), (spotAt s k).1 < (spotAt s (k + (d + 1))).1 ∨ ((spotAt s k).1 = (spotAt s (k + (d + 1))).1 ∧ (spotAt s k).2 < (spotAt s (k + (d + 1))).2)
  | 0, k => spotAt_step s k
  | d + 1, k => by
    have h1 := spotAt_lt s d k
    have h2 := spotAt_step s (k + (d + 1))
    rw [show k + (d + 1) + 1 = k + (d + 1 + 1) by omega] at h2
    omega
theorem spotAt_inj {s : ByteArray} {i j : Nat} (h : spotAt s i = spotAt s j) : i = j := by
  rcases Nat.lt_trichotomy i j with h1 | h1 | h1
  · have := spotAt_lt s (j - i - 1) i
    rw [show i + (j - i - 1 + 1) = j by omega, h] at this
    omega
  · exact h1
  · have := spotAt_lt s (i - j - 1) j
    rw [show j + (i - j - 1 + 1) = i by omega, h] at this
    omega

/-- What lex.Spot returns: line, column, error. -/
def spotOf (s : ByteArray) (p : Int) : (Nat × Nat) × Nat :=
  if (textErr s).2 ≠ 0 then ((0, 0), (textErr s).2) else if 0 ≤ p ∧ p ≤ s.size then (spotAt s p.toNat, 0) else ((0, 0), 3)
/-- Is a place's spot this one? -/
def isSpot (s : ByteArray) (l c : Int) (k : Nat) : Bool := decide (((spotAt s k).1 : Int) = l ∧ ((spotAt s k).2 : Int) = c)
/-- The first of f places from one on with a spot. -/
def atFrom (s : ByteArray) (l c : Int) : Nat → Nat → Nat × Nat
  | 0, _ => (0, 7)
  | f + 1, k => if isSpot s l c k then (k, 0) else atFrom s l c f (k + 1)
/-- What lex.At returns. -/
def atOf (s : ByteArray) (l c : Int) : Nat × Nat := if (textErr s).2 ≠ 0 then (0, (textErr s).2) else atFrom s l c (s.size + 1) 0
theorem atFrom_hit {s : ByteArray} {l c : Int} {k : Nat} (f : Nat) (h : isSpot s l c k = true) : atFrom s l c (f + 1) k = (k, 0) := by rw [atFrom, if_pos h]
theorem atFrom_miss {s : ByteArray} {l c : Int} {k : Nat} (f : Nat) (h : isSpot s l c k = false) : atFrom s l c (f + 1) k = atFrom s l c f (k + 1) := by rw [atFrom, if_neg (by simp [h])]
theorem atFrom_found {s : ByteArray} {i : Nat} : ∀ (f k : Nat), k ≤ i → i < k + f → atFrom s (spotAt s i).1 (spotAt s i).2 f k = (i, 0)
  | 0, k, h1, h2 => by omega
  | f + 1, k, h1, h2 => by
    by_cases e : k = i
    · subst e
      exact atFrom_hit f (by simp [isSpot])
    · rw [atFrom_miss f, atFrom_found f (k + 1) (by omega) (by omega)]
      rw [isSpot, decide_eq_false_iff_not]
      rintro ⟨h3, h4⟩
      exact e (spotAt_inj (s := s) (Prod.ext (by omega) (by omega)))
theorem atOf_spot {s : ByteArray} {i : Nat} (h : (textErr s).2 = 0) (hi : i ≤ s.size) : atOf s (spotAt s i).1 (spotAt s i).2 = (i, 0) := by
  unfold atOf
  rw [if_neg (by omega), atFrom_found _ 0 (by omega) (by omega)]
theorem spotOf_in {s : ByteArray} {i : Nat} (h : (textErr s).2 = 0) (hi : i ≤ s.size) : spotOf s i = (spotAt s i, 0) := by
  unfold spotOf
  rw [if_neg (by omega), if_pos (by omega)]
  rfl
end Go.Proofs.YtchkngabppmbkaaDoor.Lx
