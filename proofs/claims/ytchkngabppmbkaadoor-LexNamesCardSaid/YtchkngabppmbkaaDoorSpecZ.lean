/-
  PLAIN: which brackets belong together.
-/
import Derived.Test.YtchkngabppmbkaaDoorSpecT
namespace Go.Proofs.YtchkngabppmbkaaDoor.Lx

def bOpen (t : ByteArray) : Bool := decide (t = ⟨#[40]⟩ ∨ t = ⟨#[123]⟩)
def bShut (t : ByteArray) : Bool := decide (t = ⟨#[41]⟩ ∨ t = ⟨#[125]⟩)
/-- The bracket that a closing one closes. -/
def opener (t : ByteArray) : ByteArray := if t = ⟨#[41]⟩ then ⟨#[40]⟩ else ⟨#[123]⟩
def textAt (l : List Tk) (k : Nat) : ByteArray := ((l[k]?).map (·.text)).getD ⟨#[]⟩
/-- Does the token at i close what was opened last? -/
def fitsAt (l : List Tk) (ops : List Nat) (i : Nat) : Bool := match ops.getLast? with | some k => decide (textAt l k = opener (textAt l i)) | none => false
/-- f tokens from i on: what belongs to the tokens so far, and which are open. -/
def pairsGo (l : List Tk) : Nat → Nat → List Int → List Nat → List Int × Nat × Nat
  | 0, _, out, ops => match ops with | [] => (out, 0, 0) | k :: _ => ([], k, 4)
  | f + 1, i, out, ops =>
    if bOpen (textAt l i) = true then pairsGo l f (i + 1) (out ++ [-1]) (ops ++ [i])
    else if bShut (textAt l i) = true then
      if fitsAt l ops i = true then pairsGo l f (i + 1) (((out ++ [-1]).set i ((ops.getLastD 0 : Nat) : Int)).set (ops.getLastD 0) (i : Int)) ops.dropLast
      else ([], i, 4)
    else pairsGo l f (i + 1) (out ++ [-1]) ops
/-- What Pairs returns: what belongs together, a token's number, an error. -/
def pairsOf (l : List Tk) : List Int × Nat × Nat := if listErr l ≠ 0 then ([], 0, listErr l) else pairsGo l l.length 0 [] []

theorem pairsGo_open {l : List Tk} {f i : Nat} {out : List Int} {ops : List Nat} (h : bOpen (textAt l i) = true) : pairsGo l (f + 1) i out ops = pairsGo l f (i + 1) (out ++ [-1]) (ops ++ [i]) := by rw [pairsGo, if_pos h]
theorem pairsGo_other {l : List Tk} {f i : Nat} {out : List Int} {ops : List Nat} (h : bOpen (textAt l i) = false) (h2 : bShut (textAt l i) = false) : pairsGo l (f + 1) i out ops = pairsGo l f (i + 1) (out ++ [-1]) ops := by rw [pairsGo, if_neg (by simp [h]), if_neg (by simp [h2])]
theorem pairsGo_fits {l : List Tk} {f i k : Nat} {out : List Int} {ops : List Nat} (h : bOpen (textAt l i) = false) (h2 : bShut (textAt l i) = true) (h3 : fitsAt l (ops ++ [k]) i = true) :
    pairsGo l (f + 1) i out (ops ++ [k]) = pairsGo l f (i + 1) (((out ++ [-1]).set i (k : Int)).set k (i : Int)) ops := by
  rw [pairsGo, if_neg (by simp [h]), if_pos h2, if_pos h3]; simp
theorem pairsGo_bad {l : List Tk} {f i : Nat} {out : List Int} {ops : List Nat} (h : bOpen (textAt l i) = false) (h2 : bShut (textAt l i) = true) (h3 : fitsAt l ops i = false) : pairsGo l (f + 1) i out ops = ([], i, 4) := by
  rw [pairsGo, if_neg (by simp [h]), if_pos h2, if_neg (by simp [h3])]
theorem pairsGo_len {l : List Tk} : ∀ (f i : Nat) (out : List Int) (ops : List Nat), (pairsGo l f i out ops).1.length ≤ out.length + f
  | 0, i, out, ops => by
    unfold pairsGo
    split <;> simp
  | f + 1, i, out, ops => by
    unfold pairsGo
    split
    · have := pairsGo_len (l := l) f (i + 1) (out ++ [-1]) (ops ++ [i]); simp at this; omega
    · split
      · split
        · have := pairsGo_len (l := l) f (i + 1) (((out ++ [-1]).set i ((ops.getLastD 0 : Nat) : Int)).set (ops.getLastD 0) (i : Int)) ops.dropLast; rw [List.length_set, List.length_set, List.length_append, List.length_singleton] at this; omega
        · simp
      · have := pairsGo_len (l := l) f (i + 1) (out ++ [-1]) ops; simp at this; omega

/-- A right token whose text is a bracket is a sign. -/
theorem bracket_sign {x : Tk} (h : tokOk x = true) (hb : bOpen x.text = true ∨ bShut x.text = true) : x.kind = 4 := by
  obtain ⟨_, h2, _⟩ := tokOk_cls h
  rw [h2]
  have ht : x.text = ⟨#[40]⟩ ∨ x.text = ⟨#[123]⟩ ∨ x.text = ⟨#[41]⟩ ∨ x.text = ⟨#[125]⟩ := by
    rcases hb with hb | hb
    · rcases of_decide_eq_true hb with h | h <;> simp [h]
    · rcases of_decide_eq_true hb with h | h <;> simp [h]
  rcases ht with h | h | h | h <;> rw [h] <;> decide
end Go.Proofs.YtchkngabppmbkaaDoor.Lx
