/-
  PLAIN: what two texts have in common; what leads from one to the other.
-/
import Derived.Test.YtchkngabppmbkaaDoorSpecE
namespace Go.Proofs.YtchkngabppmbkaaDoor.Lx

def cnt (p : Nat → Bool) : Nat → Nat → Nat
  | 0, k => k
  | f + 1, k => if p k then cnt p f (k + 1) else k
theorem cnt_step {p : Nat → Bool} {m k : Nat} (h : k < m) (hp : p k = true) : cnt p (m - k) k = cnt p (m - (k + 1)) (k + 1) := by
  obtain ⟨g, hg⟩ : ∃ g, m - k = g + 1 := ⟨m - k - 1, by omega⟩
  rw [hg, cnt, if_pos hp]; congr 1; omega
theorem cnt_stop {p : Nat → Bool} {m k : Nat} (hp : p k = false) : cnt p (m - k) k = k := by
  cases h : m - k with
  | zero => rfl
  | succ g => rw [cnt, if_neg (by simp [hp])]
theorem cnt_end {p : Nat → Bool} {m k : Nat} (h : m ≤ k) : cnt p (m - k) k = k := by rw [show m - k = 0 by omega]; rfl
theorem cnt_ge (p : Nat → Bool) : ∀ (f k : Nat), k ≤ cnt p f k
  | 0, _ => Nat.le_refl _
  | f + 1, k => by
    rw [cnt]
    split
    · exact Nat.le_trans (Nat.le_succ k) (cnt_ge p f (k + 1))
    · exact Nat.le_refl _
theorem cnt_le (p : Nat → Bool) : ∀ (f k : Nat), cnt p f k ≤ k + f
  | 0, _ => Nat.le_refl _
  | f + 1, k => by
    rw [cnt]
    split
    · have := cnt_le p f (k + 1); omega
    · omega
def most (a b : ByteArray) : Nat := min a.size b.size
def headP (a b : ByteArray) (i : Nat) : Bool := byteAt a i == byteAt b i
def tailP (a b : ByteArray) (j : Nat) : Bool := byteAt a (a.size - 1 - j) == byteAt b (b.size - 1 - j)
def headLen (a b : ByteArray) : Nat := cnt (headP a b) (most a b) 0
def tailLen (a b : ByteArray) : Nat := cnt (tailP a b) (most a b - headLen a b) 0
theorem headLen_le (a b : ByteArray) : headLen a b ≤ most a b := by have := cnt_le (headP a b) (most a b) 0; unfold headLen; omega
theorem tailLen_le (a b : ByteArray) : headLen a b + tailLen a b ≤ most a b := by
  have h1 := headLen_le a b
  have := cnt_le (tailP a b) (most a b - headLen a b) 0
  unfold tailLen; omega
def diffSpl (a b : ByteArray) : Spl := ⟨headLen a b, (a.size : Int) - tailLen a b, b.extract (headLen a b) (b.size - tailLen a b)⟩
def diffOf (a b : ByteArray) : List Spl × Nat :=
  if (textErr a).2 ≠ 0 then ([], (textErr a).2)
  else if (textErr b).2 ≠ 0 then ([], (textErr b).2)
  else if a = b then ([], 0)
  else ([diffSpl a b], 0)
end Go.Proofs.YtchkngabppmbkaaDoor.Lx
