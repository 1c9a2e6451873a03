/-
  PLAIN: the integer with which a text begins, by the reference's way of reading.
-/
import Derived.Test.YtepdlghobopdbaaGreatDoorFp
namespace Go.Proofs.YtepdlghobopdbaaGreatDoor
open Go.RowKit Go.MapKept Go.Shelf
namespace Ar
def isDig (c : UInt8) : Prop := 48 ≤ c.toNat ∧ c.toNat ≤ 57
instance (c : UInt8) : Decidable (isDig c) := by unfold isDig; infer_instance
def digStep (a : Int) (c : UInt8) : Int := IntKind.i64.wrap (IntKind.i64.wrap (10 * a) + ((c.toNat : Int) - 48))
/-- The integer with which a text begins, and how many bytes it has; at most so many. -/
def digN : Nat → Int → List UInt8 → Int × Nat
  | 0, a, _ => (a, 0)
  | _ + 1, a, [] => (a, 0)
  | k + 1, a, c :: r => if isDig c then ((digN k (digStep a c) r).1, (digN k (digStep a c) r).2 + 1) else (a, 0)
theorem digN_len : ∀ (k : Nat) (a : Int) (l : List UInt8), (digN k a l).2 ≤ l.length ∧ (digN k a l).2 ≤ k
  | 0, a, l => ⟨Nat.zero_le _, Nat.le_refl _⟩
  | _ + 1, a, [] => ⟨Nat.le_refl _, Nat.zero_le _⟩
  | k + 1, a, c :: r => by
    obtain ⟨h1, h2⟩ := digN_len k (digStep a c) r
    rw [digN]
    split
    · simp only [List.length_cons]; omega
    · exact ⟨Nat.zero_le _, Nat.zero_le _⟩
theorem digN_step {k : Nat} {a : Int} {l : List UInt8} {c : UInt8} (h : l[0]? = some c) (hd : isDig c) : digN (k + 1) a l = ((digN k (digStep a c) (l.drop 1)).1, (digN k (digStep a c) (l.drop 1)).2 + 1) := by
  cases l with
  | nil => cases h
  | cons b r =>
    obtain rfl := Option.some.inj h
    rw [digN, if_pos hd]; rfl
theorem digN_stop {k : Nat} {a : Int} {l : List UInt8} (h : k = 0 ∨ l = [] ∨ ∃ c, l[0]? = some c ∧ ¬ isDig c) : digN k a l = (a, 0) := by
  match k, l with
  | 0, _ => rfl
  | _ + 1, [] => rfl
  | k + 1, b :: r =>
    rcases h with h | h | ⟨c, h, hn⟩
    · cases h
    · cases h
    · obtain rfl := Option.some.inj h
      rw [digN, if_neg hn]
theorem digN_range : ∀ (k : Nat) (a : Int) (l : List UInt8), (-9223372036854775808 ≤ a ∧ a ≤ 9223372036854775807) → -9223372036854775808 ≤ (digN k a l).1 ∧ (digN k a l).1 ≤ 9223372036854775807
  | 0, a, l, h => h
  | _ + 1, a, [], h => h
  | k + 1, a, c :: r, h => by
    rw [digN]
    split
    · exact digN_range k _ r (by
        unfold digStep
        generalize IntKind.i64.wrap (10 * a) + ((c.toNat : Int) - 48) = x
        unfold IntKind.wrap
        simp only [IntKind.bits, IntKind.signed]
        constructor <;> (simp; try omega))
    · exact h
theorem digN_app : ∀ (ds : List UInt8) (k : Nat) (a : Int) (r : List UInt8), (∀ c ∈ ds, isDig c) → ds.length ≤ k → digN k a (ds ++ r) = ((digN (k - ds.length) (ds.foldl digStep a) r).1, (digN (k - ds.length) (ds.foldl digStep a) r).2 + ds.length)
  | [], k, a, r, _, _ => rfl
  | c :: ds, 0, a, r, _, hl => by simp at hl
  | c :: ds, k + 1, a, r, hd, hl => by
    have ih := digN_app ds k (digStep a c) r (fun x hx => hd x (List.mem_cons_of_mem _ hx)) (by simpa using hl)
    rw [List.cons_append, digN, if_pos (hd c List.mem_cons_self), ih]
    simp only [List.length_cons, List.foldl_cons, Nat.add_sub_add_right, Nat.add_assoc]
theorem fold_dec : ∀ (v : Nat), v ≤ 9223372036854775807 → (Lib.decDigits v).foldl digStep 0 = (v : Int) := by
  intro v
  induction v using Nat.strongRecOn with
  | ind v ih =>
    intro hv
    rw [Lib.decDigits]
    split
    · show digStep 0 (UInt8.ofNat (48 + v)) = _
      unfold digStep
      rw [ofNat_toNat (by omega)]
      have e1 : IntKind.i64.wrap (10 * 0) = 0 := IntWalk.i64_in _ (by omega)
      rw [e1, IntWalk.i64_in _ (by omega)]
      omega
    · rw [List.foldl_append, ih (v / 10) (by omega) (by omega)]
      show digStep _ (UInt8.ofNat (48 + v % 10)) = _
      unfold digStep
      rw [ofNat_toNat (by omega), IntWalk.i64_in (10 * ((v / 10 : Nat) : Int)) (by omega), IntWalk.i64_in _ (by omega)]
      omega
theorem dec_len {v : Nat} (h : v ≤ 9223372036854775807) : (Lib.decDigits v).length ≤ 19 := by
  rw [Lib.decDigits_length]
  rcases Nat.lt_or_ge 19 (Lib.nDigits v) with hl | hl
  · exfalso
    have hp : ∀ (k u : Nat), k < Lib.nDigits u → 10 ^ k ≤ u ∨ k = 0 := by
      intro k
      induction k with
      | zero => intro u _; exact .inr rfl
      | succ k ih =>
        intro u hu
        by_cases h10 : u < 10
        · rw [Lib.nDigits_small h10] at hu; omega
        · rw [Lib.nDigits_big h10] at hu
          refine .inl ?_
          rcases ih (u / 10) (by omega) with hk | hk
          · rw [Nat.pow_succ]; omega
          · subst hk; show 10 ^ 1 ≤ u; omega
    rcases hp 19 v hl with h1 | h1
    · have : (10 : Nat) ^ 19 = 10000000000000000000 := by decide
      omega
    · cases h1
  · exact hl
/-- What the reading of a number's text comes to. -/
theorem digN_dec {v : Int} (h0 : 0 ≤ v) (h1 : v ≤ 9223372036854775807) (r : List UInt8) (hr : r = [] ∨ ∃ c, r[0]? = some c ∧ ¬ isDig c) : digN 19 0 ((itoaB v).data.toList ++ r) = (v, (itoaB v).data.toList.length) := by
  rw [itoa_list h0]
  rw [digN_app _ 19 0 r (dec_digit _) (dec_len (by omega)), fold_dec _ (by omega), digN_stop (.inr hr)]
  simp only [Nat.zero_add, Prod.mk.injEq, and_true]
  omega
end Ar
end Go.Proofs.YtepdlghobopdbaaGreatDoor
