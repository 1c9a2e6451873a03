/-
  PLAIN: the reference's right tokens are the right ones.
-/
import Derived.Test.YtchkngabppmbkaaDoorSpecF
import Derived.Test.YtchkngabppmbkaaDoorSpecL
namespace Go.Proofs.YtchkngabppmbkaaDoor.Lx

theorem tokOk_ref (t : Tk) (h : 0 < t.text.size) : tokOk t = (decide ((refPiece t.text 0).2.2 = 0) && decide (((refPiece t.text 0).1 : Int) = t.kind ∧ (refPiece t.text 0).2.1 = t.text)) := by
  unfold tokOk
  rw [decide_eq_true (by omega : t.text.size ≠ 0), Bool.true_and]
  unfold refPiece
  by_cases h6 : cls (byteAt t.text 0) = 6
  · rw [if_pos h6]
    have hp : (piece t.text 0).2.1 = t.text.extract 1 (runEnd notNL t.text 1) := by unfold piece; rw [if_pos h6]
    have hne : ¬ (piece t.text 0).2.1 = t.text := fun e => by
      rw [hp] at e
      have := congrArg ByteArray.size e
      rw [ByteArray.size_extract] at this
      omega
    rw [decide_eq_false (fun e : ((piece t.text 0).1 : Int) = t.kind ∧ (piece t.text 0).2.1 = t.text => hne e.2), Bool.and_false]
    rfl
  · rw [if_neg h6]
    by_cases he : (piece t.text 0).2.2 = 0
    · rw [if_pos he]
    · rw [if_neg he]
      rw [decide_eq_false he]
      simp only [Bool.false_and]
theorem tokOk_none {t : Tk} (h : t.text.size = 0) : tokOk t = false := by unfold tokOk; rw [decide_eq_false (by omega), Bool.false_and]
end Go.Proofs.YtchkngabppmbkaaDoor.Lx
