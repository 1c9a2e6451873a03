/-
  PLAIN: a text behind splices.
-/
import Derived.Test.YtchkngabppmbkaaDoorSpecD
namespace Go.Proofs.YtchkngabppmbkaaDoor.Lx

def spliceOut (s : ByteArray) : Int → List Spl → List UInt8
  | done, [] => (s.extract done.toNat s.size).data.toList
  | done, x :: xs => (s.extract done.toNat x.lo.toNat).data.toList ++ (x.text.data.toList ++ spliceOut s x.hi xs)
def applyOf (s : ByteArray) (l : List Spl) : ByteArray × Nat :=
  if (changesOf s l).2 ≠ 0 then (⟨#[]⟩, (changesOf s l).2) else (⟨(spliceOut s 0 l).toArray⟩, 0)
theorem changesOf_ok {s : ByteArray} {l : List Spl} (h : (changesOf s l).2 = 0) : (changesOf s l).1 = chgs s 0 l ∧ (textErr s).2 = 0 ∧ l.length ≤ 40 ∧ rightFrom s.size 0 l = true ∧ l.any badText = false ∧ s.size + grow s 0 l ≤ 2500 := by
  unfold changesOf at h ⊢
  split at h
  · rename_i h1; exact absurd h h1
  · rename_i h1
    rw [if_neg h1]
    split at h
    · cases h
    · rename_i h2
      rw [if_neg h2]
      split at h
      · cases h
      · rename_i h3
        rw [if_neg h3]
        split at h
        · cases h
        · rename_i h4
          rw [if_neg h4]
          split at h
          · cases h
          · rename_i h5
            rw [if_neg h5]
            exact ⟨rfl, by simpa using h1, by omega, by simpa using h3, by simpa using h4, by omega⟩
theorem changesOf_err {s : ByteArray} {l : List Spl} (h : (changesOf s l).2 ≠ 0) : (changesOf s l).1 = [] := by
  unfold changesOf at h ⊢
  split
  · rfl
  · rename_i h1
    rw [if_neg h1] at h
    split
    · rfl
    · rename_i h2
      rw [if_neg h2] at h
      split
      · rfl
      · rename_i h3
        rw [if_neg h3] at h
        split
        · rfl
        · rename_i h4
          rw [if_neg h4] at h
          split
          · rfl
          · rename_i h5
            rw [if_neg h5] at h
            exact absurd rfl h
theorem textErr_le {s : ByteArray} (h : (textErr s).2 = 0) : s.size ≤ 2500 := by
  unfold textErr at h
  split at h
  · cases h
  · omega
theorem chgs_get (s : ByteArray) : ∀ {l : List Spl} {g : Int} {k : Nat} {c : Chg}, (chgs s g l)[k]? = some c → l[k]? = some c.spl
  | [], _, _, _, h => by simp [chgs] at h
  | x :: xs, g, 0, c, h => by
    simp only [chgs, List.getElem?_cons_zero, Option.some.injEq] at h ⊢
    rw [← h]
  | x :: xs, g, k + 1, c, h => by
    simp only [chgs, List.getElem?_cons_succ] at h ⊢
    exact chgs_get s h
theorem drop_of_get {α : Type} {l : List α} {k : Nat} {x : α} (h : l[k]? = some x) : l.drop k = x :: l.drop (k + 1) := by
  obtain ⟨hk, hx⟩ := List.getElem?_eq_some_iff.1 h
  rw [List.drop_eq_getElem_cons hk, hx]
end Go.Proofs.YtchkngabppmbkaaDoor.Lx
