/-
  PLAIN: which lists the statements look at.
-/
import Derived.Test.YtlkhlemafkfcbaaDoorSpecF
import Derived.Test.YtlkhlemafkfcbaaDoorSpecD
namespace Go.Proofs.YtlkhlemafkfcbaaDoor.Lx

def fewFrom : Nat → List Spl → Bool
  | _, [] => true
  | n, x :: xs => decide (n + x.text.size ≤ 3000) && fewFrom (n + x.text.size) xs
def fewOf (l : List Spl) : Bool := fewFrom 0 l && decide (l.length ≤ 1000)
theorem fewFrom_mem : ∀ {l : List Spl} {n : Nat}, fewFrom n l = true → ∀ x ∈ l, x.text.size ≤ 3000
  | [], _, _, _, h => by cases h
  | y :: ys, n, h, x, hx => by
    rw [fewFrom, Bool.and_eq_true, decide_eq_true_eq] at h
    rcases List.mem_cons.1 hx with rfl | hx
    · omega
    · exact fewFrom_mem h.2 x hx
theorem fewOf_mem {l : List Spl} (h : fewOf l = true) : (∀ x ∈ l, x.text.size ≤ 3000) ∧ l.length ≤ 1000 := by
  rw [fewOf, Bool.and_eq_true, decide_eq_true_eq] at h
  exact ⟨fewFrom_mem h.1, h.2⟩
def shortOf (l : List Tk) : Bool := l.all (fun x => decide (x.text.size ≤ 100)) && decide (l.length ≤ 1000)
theorem shortOf_mem {l : List Tk} (h : shortOf l = true) : (∀ x ∈ l, x.text.size ≤ 100) ∧ l.length ≤ 1000 := by
  rw [shortOf, Bool.and_eq_true, decide_eq_true_eq, List.all_eq_true] at h
  exact ⟨fun x hx => by simpa using h.1 x hx, h.2⟩
end Go.Proofs.YtlkhlemafkfcbaaDoor.Lx
