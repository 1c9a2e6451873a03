/-
  WALKS: the text of a type.
-/
import Derived.Test.YtoeabencbbjboaaGreatDoorBj
namespace Go.Proofs.YtoeabencbbjboaaGreatDoor
open Go.RowKit Go.MapKept Go.Shelf

namespace Ar
def joinB (l : List ByteArray) (sep : ByteArray) : ByteArray := ⟨(Lib.join (l.map (·.data.toList)) sep.data.toList).toArray⟩
def typeB (t : Ty) : ByteArray := if t.params.length = 0 then baseB t.result else ⟨#[40]⟩ ++ joinB (t.params.map baseB) ⟨#[44, 32]⟩ ++ ⟨#[41, 32, 45, 62, 32]⟩ ++ baseB t.result
end Ar
theorem intercalate_le (sep : List UInt8) (m : Nat) : ∀ l : List (List UInt8), (∀ x ∈ l, x.length ≤ m) → (sep.intercalate l).length ≤ l.length * (m + sep.length)
  | [], _ => by simp [List.intercalate]
  | [x], h => by
    have := h x (by simp)
    simp [List.intercalate]; omega
  | x :: y :: l, h => by
    have h1 := h x (by simp)
    have h2 := intercalate_le sep m (y :: l) (fun z hz => h z (by simp [hz]))
    have e : sep.intercalate (x :: y :: l) = x ++ sep ++ sep.intercalate (y :: l) := by simp [List.intercalate]
    rw [e]
    simp only [List.length_append, List.length_cons] at h2 ⊢
    rw [Nat.succ_mul]
    omega
theorem joinB_size (l : List ByteArray) (sep : ByteArray) (m : Nat) (h : ∀ x ∈ l, x.size ≤ m) : (Ar.joinB l sep).size ≤ l.length * (m + sep.size) := by
  have := intercalate_le sep.data.toList m (l.map (·.data.toList)) (fun x hx => by obtain ⟨y, hy, rfl⟩ := List.mem_map.1 hx; exact h y hy)
  rw [List.length_map] at this
  have e : (Ar.joinB l sep).size = (Lib.join (l.map (·.data.toList)) sep.data.toList).length := by
    show (Array.size (List.toArray _)) = _
    simp
  rw [e]; exact this
theorem join_row (l : List ByteArray) (sep : ByteArray) (v : Value) (base m : Nat) (W : World) (ho : W.ownsRow base 9 1 v l.length (l.map .string)) (h : ∀ x ∈ l, x.size ≤ m) (hl : l.length ≤ 1000001) (hm : m + sep.size ≤ 134217728) :
    Calls Tryz.prog 62 #[v, .string sep] W fun e w' => e = .returned (.string (Ar.joinB l sep)) ∧ Below W.heap.size W w' := by
  have hs := joinB_size l sep m h
  have hs2 : l.length * (m + sep.size) ≤ 1000001 * 134217728 := Nat.mul_le_mul hl hm
  have hj : (Lib.join (l.map (·.data.toList)) sep.data.toList).length = (Ar.joinB l sep).size := by
    show _ = (Array.size (List.toArray _))
    simp
  rcases ho.2 with ⟨rfl, h0⟩ | ⟨g, cap, cur, rfl, _, hg, hc, _, _, hx⟩
  · have hl0 : l = [] := List.eq_nil_of_length_eq_zero h0
    subst hl0
    exact (Tryz.strings_Join_none none 0 sep W).mono fun e w' ⟨he, hw⟩ => ⟨by rw [he]; rfl, by subst hw; exact Below.refl _ _⟩
  · refine Tryz.strings_Join g 0 cap l sep W (fun j x hjx => ?_) (lt_of_heap hg) (by omega) hc (by omega)
    have hlt := (List.getElem?_eq_some_iff.1 hjx).1
    have : (cur.toList.take (l.length * 1))[j]? = some (.string x) := by rw [hx, List.getElem?_map, hjx]; rfl
    rw [List.getElem?_take_of_lt (by omega)] at this
    simpa [World.cell?, hg] using this
theorem row_map (l : List Ar.Bs) : l.flatMap baseCell = (l.map Ar.baseB).map Value.string := by
  induction l with
  | nil => rfl
  | cons x l ih => rw [List.flatMap_cons, ih]; rfl
end Go.Proofs.YtoeabencbbjboaaGreatDoor
