/-
  PLAIN: splices.
-/
import Derived.Test.YtchkngabppmbkaaDoorSpecB
namespace Go.Proofs.YtchkngabppmbkaaDoor.Lx

structure Spl where
  lo : Int
  hi : Int
  text : ByteArray
  deriving DecidableEq
/-- Are splices right for a text of n bytes, behind a place? -/
def rightFrom (n : Int) : Int → List Spl → Bool
  | _, [] => true
  | done, x :: xs => !(decide (x.lo < done) || decide (x.hi < x.lo) || decide (n < x.hi)) && rightFrom n x.hi xs
theorem rightFrom_all {n : Int} : ∀ {l : List Spl} {q : Int}, rightFrom n q l = true → ∀ x ∈ l, q ≤ x.lo ∧ x.lo ≤ x.hi ∧ x.hi ≤ n
  | [], _, _ => by simp
  | x :: xs, q, h => by
    unfold rightFrom at h
    simp only [Bool.and_eq_true, Bool.not_eq_true', Bool.or_eq_false_iff, decide_eq_false_iff_not] at h
    intro y hy
    rcases List.mem_cons.1 hy with rfl | hy
    · omega
    · have := rightFrom_all h.2 y hy; omega

/-- A change: the splice, where its text begins in the text after, what it takes out. -/
structure Chg where
  spl : Spl
  pos : Int
  out : ByteArray
def outOf (s : ByteArray) (x : Spl) : ByteArray := s.extract x.lo.toNat x.hi.toNat
def growBy (s : ByteArray) (x : Spl) : Int := (x.text.size : Int) - (outOf s x).size
def chgs (s : ByteArray) : Int → List Spl → List Chg
  | _, [] => []
  | g, x :: xs => { spl := x, pos := x.lo + g, out := outOf s x } :: chgs s (g + growBy s x) xs
def grow (s : ByteArray) : Int → List Spl → Int
  | g, [] => g
  | g, x :: xs => grow s (g + growBy s x) xs
def badText (x : Spl) : Bool := decide (runEnd isText x.text 0 < x.text.size)
def changesOf (s : ByteArray) (l : List Spl) : List Chg × Nat :=
  if (textErr s).2 ≠ 0 then ([], (textErr s).2)
  else if 40 < l.length then ([], 5)
  else if rightFrom s.size 0 l = false then ([], 3)
  else if l.any badText = true then ([], 2)
  else if 2500 < s.size + grow s 0 l then ([], 5)
  else (chgs s 0 l, 0)
theorem chgs_length (s : ByteArray) : ∀ (l : List Spl) (g : Int), (chgs s g l).length = l.length
  | [], _ => rfl
  | x :: xs, g => by simp [chgs, chgs_length s xs]
theorem growBy_bounds (s : ByteArray) (x : Spl) (h : x.text.size ≤ 1099511627776) (hs : s.size ≤ 2500) : -2500 ≤ growBy s x ∧ growBy s x ≤ 1099511627776 := by
  unfold growBy outOf
  rw [ByteArray.size_extract]; omega
end Go.Proofs.YtchkngabppmbkaaDoor.Lx
