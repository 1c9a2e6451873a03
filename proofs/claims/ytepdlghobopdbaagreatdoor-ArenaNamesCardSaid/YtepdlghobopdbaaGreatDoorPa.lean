/-
  PLAIN: arenas, places and moves.
-/
import Derived.Lib.Hide
namespace Go.Proofs.YtepdlghobopdbaaGreatDoor.Ar

structure Bs where
  cell : Bool
  n : Int
  deriving DecidableEq
structure Ty where
  params : List Bs
  result : Bs
  deriving DecidableEq
structure Are where
  ids : List Ty
  root : Bs
  jumps : Bool
  deriving DecidableEq
structure Mv where
  id : Int
  arg : Int
  kind : Int
  n : Int
  deriving DecidableEq
structure Pl where
  base : Bs
  id : Int
  arg : Int
  jumps : Bool
  deriving DecidableEq

def wrongBase (b : Bs) : Bool := decide (b.n < 1) || decide (64 < b.n)
def longType (t : Ty) : Bool := decide (5 < t.params.length)
def wrongType (t : Ty) : Bool := wrongBase t.result || t.params.any wrongBase || (t.result.cell && decide (0 < t.params.length))
/-- An arena's error: 5 (a limit), 4 (its form), 0. -/
def checkOf (a : Are) : Nat :=
  if 8 < a.ids.length ∨ a.ids.any longType = true then 5
  else if wrongBase a.root = true ∨ a.ids.any wrongType = true then 4
  else 0

/-- The places of the params of the identifier i, from the j-th on. -/
def paramsFrom (i : Nat) : Nat → List Bs → List Pl
  | _, [] => []
  | j, b :: l => ⟨b, (i : Int) + 1, (j : Int) + 1, true⟩ :: paramsFrom i (j + 1) l
/-- The places of identifiers, from the i-th on. -/
def typesFrom (jumps : Bool) : Nat → List Ty → List Pl
  | _, [] => []
  | i, t :: l => ⟨t.result, (i : Int) + 1, 0, jumps || decide (0 < t.params.length)⟩ :: (paramsFrom i 0 t.params ++ typesFrom jumps (i + 1) l)
def placesOf (a : Are) : List Pl := ⟨a.root, 0, 0, a.jumps⟩ :: typesFrom a.jumps 0 a.ids

def isId (p : Pl) : Bool := decide (0 < p.id) && decide (p.arg = 0)
def mvOf (p : Pl) (kind n : Int) : Mv := ⟨p.id, p.arg, kind, n⟩
/-- Moves of one kind, from the value k on, m of them. -/
def valsFrom (p : Pl) (kind : Int) : Nat → Nat → List Mv
  | _, 0 => []
  | k, m + 1 => mvOf p kind k :: valsFrom p kind (k + 1) m
def putsOf (p : Pl) : List Mv := if p.base.cell = true then valsFrom p 2 0 p.base.n.toNat else []
def questionsOf (p : Pl) : List Mv := mvOf p 1 0 :: putsOf p
def escOf (p : Pl) : List Mv := if p.jumps = true then [mvOf p 3 (-1)] else []
def tellsOf (p : Pl) (v : Nat) : List Mv := escOf p ++ valsFrom p 3 0 v
def answersOf (p : Pl) : List Mv := tellsOf p p.base.n.toNat
def movesOf (p : Pl) : List Mv := questionsOf p ++ answersOf p
def allOf (a : Are) : List Mv := (placesOf a).flatMap movesOf

theorem valsFrom_length (p : Pl) (kind : Int) : ∀ m k, (valsFrom p kind k m).length = m
  | 0, _ => rfl
  | m + 1, k => by simp [valsFrom, valsFrom_length p kind m]
theorem valsFrom_cons (p : Pl) (kind : Int) (k m : Nat) (h : k < m) : valsFrom p kind k (m - k) = mvOf p kind k :: valsFrom p kind (k + 1) (m - (k + 1)) := by
  obtain ⟨d, hd⟩ : ∃ d, m - k = d + 1 := ⟨m - k - 1, by omega⟩
  rw [hd, show m - (k + 1) = d by omega]; rfl
theorem paramsFrom_length (i : Nat) : ∀ (l : List Bs) (j : Nat), (paramsFrom i j l).length = l.length
  | [], _ => rfl
  | _ :: l, j => by simp [paramsFrom, paramsFrom_length i l]
theorem drop_of_get {α : Type} {l : List α} {k : Nat} {x : α} (h : l[k]? = some x) : l.drop k = x :: l.drop (k + 1) := by
  obtain ⟨hk, rfl⟩ := List.getElem?_eq_some_iff.1 h
  exact List.drop_eq_getElem_cons hk

/-- What an arena that is right is. -/
structure Right (a : Are) : Prop where
  ids : a.ids.length ≤ 8
  long : ∀ t ∈ a.ids, t.params.length ≤ 5
  root : 1 ≤ a.root.n ∧ a.root.n ≤ 64
  result : ∀ t ∈ a.ids, 1 ≤ t.result.n ∧ t.result.n ≤ 64
  params : ∀ t ∈ a.ids, ∀ b ∈ t.params, 1 ≤ b.n ∧ b.n ≤ 64
  cells : ∀ t ∈ a.ids, t.result.cell = true → t.params = []
theorem wrongBase_no {b : Bs} (h : wrongBase b = false) : 1 ≤ b.n ∧ b.n ≤ 64 := by
  unfold wrongBase at h
  simp only [Bool.or_eq_false_iff, decide_eq_false_iff_not] at h
  omega
theorem right_of_check {a : Are} (h : checkOf a = 0) : Right a := by
  unfold checkOf at h
  split at h
  · cases h
  · rename_i h1
    split at h
    · cases h
    · rename_i h2
      have hl : ¬ 8 < a.ids.length := fun e => h1 (.inl e)
      have hlong : a.ids.any longType = false := by simpa using fun e => h1 (.inr e)
      have hroot : wrongBase a.root = false := by simpa using fun e => h2 (.inl e)
      have hty : a.ids.any wrongType = false := by simpa using fun e => h2 (.inr e)
      rw [List.any_eq_false] at hlong hty
      have ht : ∀ t ∈ a.ids, wrongBase t.result = false ∧ t.params.any wrongBase = false ∧ (t.result.cell && decide (0 < t.params.length)) = false := fun t ht => by
        have := hty t ht
        unfold wrongType at this
        simp only [Bool.not_eq_true, Bool.or_eq_false_iff] at this
        exact ⟨this.1.1, this.1.2, this.2⟩
      refine ⟨by omega, fun t h3 => ?_, wrongBase_no hroot, fun t h3 => wrongBase_no (ht t h3).1, fun t h3 b hb => ?_, fun t h3 hc => ?_⟩
      · have := hlong t h3
        unfold longType at this
        simp only [decide_eq_true_eq] at this
        omega
      · have := (ht t h3).2.1
        rw [List.any_eq_false] at this
        exact wrongBase_no (by simpa using this b hb)
      · have := (ht t h3).2.2
        rw [hc] at this
        simp only [Bool.true_and, decide_eq_false_iff_not] at this
        exact List.length_eq_zero_iff.1 (by omega)
theorem place_right {a : Are} (h : Right a) : ∀ p ∈ placesOf a, 1 ≤ p.base.n ∧ p.base.n ≤ 64 := by
  have hp : ∀ (i : Nat) (l : List Bs) (j : Nat), (∀ b ∈ l, 1 ≤ b.n ∧ b.n ≤ 64) → ∀ p ∈ paramsFrom i j l, 1 ≤ p.base.n ∧ p.base.n ≤ 64 := fun i l => by
    induction l with
    | nil => intro j _ p hp; cases hp
    | cons b l ih =>
      intro j hb p hp
      rcases List.mem_cons.1 hp with rfl | hp
      · exact hb _ (.head _)
      · exact ih (j + 1) (fun b hb' => hb b (.tail _ hb')) p hp
  have ht : ∀ (l : List Ty) (i : Nat), (∀ t ∈ l, (1 ≤ t.result.n ∧ t.result.n ≤ 64) ∧ ∀ b ∈ t.params, 1 ≤ b.n ∧ b.n ≤ 64) → ∀ p ∈ typesFrom a.jumps i l, 1 ≤ p.base.n ∧ p.base.n ≤ 64 := fun l => by
    induction l with
    | nil => intro i _ p hp; cases hp
    | cons t l ih =>
      intro i hl p hq
      rcases List.mem_cons.1 hq with rfl | hq
      · exact (hl _ (.head _)).1
      · rcases List.mem_append.1 hq with hp' | hp'
        · exact hp i _ 0 (hl _ (.head _)).2 p hp'
        · exact ih (i + 1) (fun t ht => hl t (.tail _ ht)) p hp'
  intro p hp'
  rcases List.mem_cons.1 hp' with rfl | hp'
  · exact h.root
  · exact ht a.ids 0 (fun t h3 => ⟨h.result t h3, h.params t h3⟩) p hp'

/-- The order of moves. -/
def lessOf (a b : Mv) : Bool := if a.id ≠ b.id then decide (a.id < b.id) else if a.arg ≠ b.arg then decide (a.arg < b.arg) else if a.kind ≠ b.kind then decide (a.kind < b.kind) else decide (a.n < b.n)
theorem lessOf_irrefl (a : Mv) : lessOf a a = false := by simp [lessOf]
theorem lessOf_total (a b : Mv) : (lessOf a b = false ∧ lessOf b a = false) ↔ a = b := by
  constructor
  · intro ⟨h1, h2⟩
    unfold lessOf at h1 h2
    obtain ⟨a1, a2, a3, a4⟩ := a
    obtain ⟨b1, b2, b3, b4⟩ := b
    simp only at h1 h2
    repeat' (split at h1 <;> split at h2)
    all_goals (simp only [decide_eq_false_iff_not, Decidable.not_not, ne_eq] at *)
    all_goals (try omega)
    simp only [Mv.mk.injEq]; omega
  · rintro rfl; exact ⟨lessOf_irrefl _, lessOf_irrefl _⟩
theorem lessOf_asymm (a b : Mv) : (lessOf a b && lessOf b a) = false := by
  unfold lessOf
  rw [Bool.and_eq_false_iff]
  repeat' split
  all_goals (simp only [decide_eq_false_iff_not, Decidable.not_not, ne_eq] at *)
  all_goals omega
theorem lessOf_trans (a b c : Mv) (h1 : lessOf a b = true) (h2 : lessOf b c = true) : lessOf a c = true := by
  unfold lessOf at *
  repeat' split at h1
  all_goals (repeat' split at h2)
  all_goals (repeat' split)
  all_goals (simp only [decide_eq_true_eq, Decidable.not_not, ne_eq] at *)
  all_goals omega
end Go.Proofs.YtepdlghobopdbaaGreatDoor.Ar
