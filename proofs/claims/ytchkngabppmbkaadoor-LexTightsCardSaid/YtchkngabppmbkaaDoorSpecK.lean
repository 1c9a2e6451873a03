/-
  PLAIN: which lists the statements look at.
-/
import Derived.Test.YtchkngabppmbkaaDoorSpecF
import Derived.Test.YtchkngabppmbkaaDoorSpecI
namespace Go.Proofs.YtchkngabppmbkaaDoor.Lx

def fewFrom : Nat → List Spl → Bool
  | _, [] => true
  | n, x :: xs => decide (n + x.text.size ≤ 3000) && fewFrom (n + x.text.size) xs
def fewOf (l : List Spl) : Bool := fewFrom 0 l && decide (l.length ≤ 1000)
theorem fewFrom_mem : ∀ {l : List Spl} {n : Nat}, fewFrom n l = true → ∀ x ∈ l, x.text.size ≤ 3000
  | [], _, _, _, h => by cases h
  | y :: ys, n, h, x, hx => by
    rw [fewFrom, Bool.and_eq_true, decide_eq_true_eq] at h
    rcases List.mem_cons.1 hx with rfl | hx
    · omega
    · exact fewFrom_mem h.2 x hx
theorem fewOf_mem {l : List Spl} (h : fewOf l = true) : (∀ x ∈ l, x.text.size ≤ 3000) ∧ l.length ≤ 1000 := by
  rw [fewOf, Bool.and_eq_true, decide_eq_true_eq] at h
  exact ⟨fewFrom_mem h.1, h.2⟩
def shortOf (l : List Tk) : Bool := l.all (fun x => decide (x.text.size ≤ 100)) && decide (l.length ≤ 1000)
theorem shortOf_mem {l : List Tk} (h : shortOf l = true) : (∀ x ∈ l, x.text.size ≤ 100) ∧ l.length ≤ 1000 := by
  rw [shortOf, Bool.and_eq_true, decide_eq_true_eq, List.all_eq_true] at h
  exact ⟨fun x hx => by simpa using h.1 x hx, h.2⟩
/-- Where a byte stands, told by how much splices before it have put in. -/
def refMoved (s : ByteArray) (p : Int) : Int → List Spl → Int × Nat
  | g, [] => (p + g, 0)
  | g, x :: xs => if x.lo ≤ p ∧ p < x.hi then (0, 7) else refMoved s p (if x.hi ≤ p then g + growBy s x else g) xs
theorem refMoved_below (s : ByteArray) {p : Int} : ∀ {l : List Spl} {g : Int}, (∀ x ∈ l, p < x.lo ∧ x.lo ≤ x.hi) → refMoved s p g l = (p + g, 0)
  | [], _, _ => rfl
  | x :: xs, g, h => by
    have hx := h x (.head _)
    rw [refMoved, if_neg (by omega), if_neg (by omega), refMoved_below s fun y hy => h y (.tail _ hy)]
theorem refMoved_eq {s : ByteArray} {p : Int} : ∀ {l : List Spl} {q g : Int}, rightFrom s.size q l = true → 0 ≤ q → movedScan p (p + g) (chgs s g l) = refMoved s p g l
  | [], _, _, _, _ => rfl
  | x :: xs, q, g, h, h0 => by
    have ha := rightFrom_all h x (.head _)
    have ho := outOf_size (s := s) (x := x) (by omega) (by omega) (by omega)
    have hr := h
    unfold rightFrom at hr
    rw [Bool.and_eq_true] at hr
    simp only [chgs, movedScan, refMoved]
    by_cases c1 : x.lo ≤ p ∧ p < x.hi
    · rw [if_pos c1, if_pos c1]
    · rw [if_neg c1, if_neg c1]
      by_cases c2 : x.hi ≤ p
      · rw [if_pos c2, if_pos c2, ← refMoved_eq hr.2 (by omega)]
        congr 1
        unfold growBy; omega
      · rw [if_neg c2, if_neg c2, scan_below (chgs_above hr.2 (by omega))]
        rw [refMoved_below s fun y hy => by have := rightFrom_all hr.2 y hy; omega]
theorem movedOf_ref {s : ByteArray} {l : List Spl} {p : Int} (h : (changesOf s l).2 = 0) (h0 : 0 ≤ p) (h1 : p ≤ s.size) : movedOf s l p = refMoved s p 0 l := by
  obtain ⟨hL, hte, h40, hr, hb, hg⟩ := changesOf_ok h
  rw [movedOf_ok h h0 h1, ← refMoved_eq hr (by omega), Int.add_zero]
end Go.Proofs.YtchkngabppmbkaaDoor.Lx
