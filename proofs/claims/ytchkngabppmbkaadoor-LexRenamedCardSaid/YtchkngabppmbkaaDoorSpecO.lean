/-
  PLAIN: how long a renamed text is; places one by one.
-/
import Derived.Test.YtchkngabppmbkaaDoorSpecG
namespace Go.Proofs.YtchkngabppmbkaaDoor.Lx

theorem placesOf_cons (t x : Tk) (l : List Tk) : placesOf t (x :: l) = if x.kind = t.kind ∧ x.text = t.text then x.pos :: placesOf t l else placesOf t l := by
  unfold placesOf
  rw [List.filter_cons]
  by_cases h : x.kind = t.kind ∧ x.text = t.text
  · rw [if_pos (by simpa using h), if_pos h]; rfl
  · rw [if_neg (by simpa using h), if_neg h]
theorem renOut_length (s name : ByteArray) (m : Nat) : ∀ (l : List Int) (q : Int), 0 ≤ q → q ≤ s.size → apart s.size m q l → ((renOut s name m q l).length : Int) = s.size - q + l.length * ((name.size : Int) - m)
  | [], q, h0, h1, _ => by
    unfold renOut
    have : (s.extract q.toNat s.size).data.toList.length = (s.extract q.toNat s.size).size := by simp
    rw [this, ByteArray.size_extract]; simp; omega
  | p :: ps, q, h0, h1, h => by
    have ha := h
    unfold apart at ha
    obtain ⟨a1, a2, a3⟩ := ha
    have ih := renOut_length s name m ps (p + m) (by omega) (by omega) a3
    unfold renOut
    have e1 : (s.extract q.toNat p.toNat).data.toList.length = (s.extract q.toNat p.toNat).size := Array.length_toList
    have e2 : name.data.toList.length = name.size := by simp
    rw [List.length_append, List.length_append, e1, e2, ByteArray.size_extract]
    rw [List.length_cons]
    have : ((ps.length + 1 : Nat) : Int) * ((name.size : Int) - m) = ps.length * ((name.size : Int) - m) + ((name.size : Int) - m) := by
      rw [Int.natCast_add, Int.add_mul]; omega
    rw [this]
    omega
end Go.Proofs.YtchkngabppmbkaaDoor.Lx
