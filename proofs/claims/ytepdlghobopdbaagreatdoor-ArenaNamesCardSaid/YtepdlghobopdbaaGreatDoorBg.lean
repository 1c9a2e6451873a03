/-
  WALKS: Parse: the range over the signs.
-/
import Derived.Test.YtepdlghobopdbaaGreatDoorBf
import Derived.Lib.AtoiAllCases
import Derived.Maps.StringElems
import Derived.WalkKit
namespace Go.Proofs.YtepdlghobopdbaaGreatDoor
open Go.RowKit Go.MapKept Go.Shelf Go.Maps

theorem num_range (s : ByteArray) : -9223372036854775808 ≤ Ar.numOf s ∧ Ar.numOf s ≤ 9223372036854775807 := by
  unfold Ar.numOf
  split
  · next v h => exact Lib.atoiAll_bounds h
  · exact Lib.atoiSat_bounds _
  · omega
theorem readMv_ok (s : ByteArray) (k : Int) (c : UInt8) : MvOk (readMv s k c) := by
  unfold readMv MvOk
  refine ⟨(num_range _).1, (num_range _).2, (num_range _).1, (num_range _).2, ?_, ?_⟩
  · show _ ≤ (if _ then _ else _)
    split
    · omega
    · exact (num_range _).1
  · show (if _ then _ else _) ≤ _
    split
    · omega
    · exact (num_range _).2
def signD : DataW Unit := .map [(.int .u8 1, .lit (.string [63])), (.int .u8 2, .lit (.string [61])), (.int .u8 3, .lit (.string [33]))]
def isKind (k : Int) : Prop := k = 1 ∨ k = 2 ∨ k = 3
def sg (k : Int) : UInt8 := if k = 1 then 63 else if k = 2 then 61 else 33
theorem law5 : Keyed Tryz.prog 5 := int_keyed Tryz.underlying5
set_option maxRecDepth 100000 in
theorem key5 (n : Int) (h : (Lit.int .u8 n).wf = true) : keyOf Tryz.prog 5 (.int .u8 n) = some (.int .u8 n) := keyOf_int_mk Tryz.underlying5 h
set_option maxRecDepth 100000 in
theorem elem9 (s : ByteArray) (h : s.size ≤ maxLen) : plainElem (H := Unit) Tryz.prog 9 (.string s) = some (.lit (.string s.data.toList), []) := by
  simp [plainElem, Tryz.underlying9, h]
set_option maxRecDepth 100000 in
theorem sign_owns {W : World} {b : Nat} (hb : W.heap[b]? = some signObj) : W.ownsMap Tryz.prog 5 (plainElem Tryz.prog 9) b 3 signD := by
  have r : ∀ (n : Int) (x : ByteArray) (m : Nat), (Lit.int .u8 n).wf = true → x.size ≤ maxLen → WideElems.rd (H := Unit) Tryz.prog 5 (plainElem Tryz.prog 9) { key := .int .u8 n, val := .string x, born := m } = some (.int .u8 n, .lit (.string x.data.toList)) :=
    fun n x m h1 h2 => WideElems.rd_mk (key5 n h1) (elem9 x h2)
  have r1 := r 1 ⟨#[63]⟩ 0 rfl (by decide)
  have r2 := r 2 ⟨#[61]⟩ 1 rfl (by decide)
  have r3 := r 3 ⟨#[33]⟩ 2 rfl (by decide)
  refine ⟨_, _, hb, ⟨by decide, ⟨by simp, by simp, by simp⟩, fun x hx => ?_⟩, Nat.le_refl _, ?_⟩
  · simp only [List.mem_cons, List.not_mem_nil, or_false] at hx
    rcases hx with rfl | rfl | rfl
    · exact ⟨_, r1⟩
    · exact ⟨_, r2⟩
    · exact ⟨_, r3⟩
  · simp only [List.map, WideElems.rg_of r1, WideElems.rg_of r2, WideElems.rg_of r3]
    rfl
theorem sign_has {k : Int} (h : isKind k) : Maps.has signD (.int .u8 k) = true := by
  rcases h with rfl | rfl | rfl <;> rfl
theorem sign_at {x : Int} {c : ByteArray} (h : ∀ zd, signD.atKey (.int .u8 x) zd = .lit (.string c.data.toList)) : isKind x ∧ c = ⟨#[sg x]⟩ := by
  by_cases h1 : x = 1
  · subst h1
    have := h .nil
    simp [signD, DataW.atKey, Lit.sameKey] at this
    exact ⟨.inl rfl, by apply ByteArray.ext; apply Array.toList_inj.1; exact this.symm⟩
  by_cases h2 : x = 2
  · subst h2
    have := h .nil
    simp [signD, DataW.atKey, Lit.sameKey] at this
    exact ⟨.inr (.inl rfl), by apply ByteArray.ext; apply Array.toList_inj.1; exact this.symm⟩
  by_cases h3 : x = 3
  · subst h3
    have := h .nil
    simp [signD, DataW.atKey, Lit.sameKey] at this
    exact ⟨.inr (.inr rfl), by apply ByteArray.ext; apply Array.toList_inj.1; exact this.symm⟩
  have := h .nil
  simp [signD, DataW.atKey, Lit.sameKey, Ne.symm h1, Ne.symm h2, Ne.symm h3] at this
theorem ranges_keep {H : Type} {P : Program} {k : TypeId} {R : Value → Option (DataW H × List MemPlace)} {w w' : World} {b r n B : Nat} {D : DataW H} {left : Lit → Bool} {cnt : Nat} (h : w.ranges P k R b r n D left cnt) (hB : Below B w w') (hb : b < B) (hr : r < B) : w'.ranges P k R b r n D left cnt := by
  obtain ⟨es, clock, since, seen, c0, hb', F, hs, hD, hr', rest⟩ := h
  exact ⟨es, clock, since, seen, c0, (hB.block b hb).trans hb', F, hs, hD, (hB.block r hr).trans hr', rest⟩
theorem below_of_grown {B r : Nat} {w w' : World} (h : w.grownBy w' (some r)) (hB : B ≤ w.heap.size) (hr : B ≤ r) : Below B w w' :=
  ⟨h.os, h.tape, h.output, h.size, fun k hk => h.block k (by omega) (by simp; omega)⟩
end Go.Proofs.YtepdlghobopdbaaGreatDoor
