/-
  PLAIN: tokens and comments of a text.
-/
import Derived.Test.YtchkngabppmbkaaDoorSpecB
namespace Go.Proofs.YtchkngabppmbkaaDoor.Lx
/-- Tokens out of comments and tokens, behind those of acc: the tokens, the place of an error, the error. -/
def tokScan : List Item → List Item → List Item × Nat × Nat
  | acc, [] => (acc, 0, 0)
  | acc, x :: xs =>
    if x.kind = 5 then tokScan acc xs
    else if x.err ≠ 0 then ([], x.pos, x.err)
    else if acc.length = 900 then ([], x.pos, 5)
    else tokScan (acc ++ [x]) xs
def isTok (x : Item) : Bool := x.kind != 5
/-- What lex.Tokens returns. -/
def tokensOf (s : ByteArray) : List Item × Nat × Nat := if (textErr s).2 ≠ 0 then ([], (textErr s).1, (textErr s).2) else tokScan [] (pieces s)
def notesOf (s : ByteArray) : List Item × Nat := if (textErr s).2 ≠ 0 then ([], (textErr s).2) else ((pieces s).filter (fun x => !isTok x), 0)
theorem scan_note {acc : List Item} {x : Item} (xs : List Item) (h : x.kind = 5) : tokScan acc (x :: xs) = tokScan acc xs := by rw [tokScan, if_pos h]
theorem scan_err {acc : List Item} {x : Item} (xs : List Item) (h : x.kind ≠ 5) (he : x.err ≠ 0) : tokScan acc (x :: xs) = ([], x.pos, x.err) := by rw [tokScan, if_neg h, if_pos he]
theorem scan_full {acc : List Item} {x : Item} (xs : List Item) (h : x.kind ≠ 5) (he : x.err = 0) (hf : acc.length = 900) : tokScan acc (x :: xs) = ([], x.pos, 5) := by rw [tokScan, if_neg h, if_neg (by simp [he]), if_pos hf]
theorem scan_tok {acc : List Item} {x : Item} (xs : List Item) (h : x.kind ≠ 5) (he : x.err = 0) (hf : acc.length ≠ 900) : tokScan acc (x :: xs) = tokScan (acc ++ [x]) xs := by rw [tokScan, if_neg h, if_neg (by simp [he]), if_neg hf]
end Go.Proofs.YtchkngabppmbkaaDoor.Lx
