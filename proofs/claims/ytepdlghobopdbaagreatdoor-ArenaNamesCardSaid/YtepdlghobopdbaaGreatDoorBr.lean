/-
  What the document's examples come to.
-/
import Derived.Test.YtepdlghobopdbaaGreatDoorBq
namespace Go.Proofs.YtepdlghobopdbaaGreatDoor
open Go.RowKit Go.MapKept Go.Shelf

def exB : Ar.Are := ⟨[⟨[], ⟨false, 3⟩⟩, ⟨[], ⟨true, 2⟩⟩], ⟨false, 1⟩, true⟩
def exS : ByteArray := ⟨#[49, 46, 50, 61, 49]⟩
def exT : ByteArray := ⟨#[105, 110, 116, 32, 49, 59, 32, 105, 110, 116, 32, 51, 59, 32, 99, 101, 108, 108, 32, 50, 59, 32, 106, 117, 109, 112, 115]⟩
theorem it0 : Ar.itoaB 0 = ⟨#[48]⟩ := by
  show (⟨(Lib.decDigits 0).toArray⟩ : ByteArray) = _
  rw [Lib.decDigits_one (by omega)]; rfl
theorem it1 : Ar.itoaB 1 = ⟨#[49]⟩ := by
  show (⟨(Lib.decDigits 1).toArray⟩ : ByteArray) = _
  rw [Lib.decDigits_one (by omega)]; rfl
theorem it2 : Ar.itoaB 2 = ⟨#[50]⟩ := by
  show (⟨(Lib.decDigits 2).toArray⟩ : ByteArray) = _
  rw [Lib.decDigits_one (by omega)]; rfl
theorem it3 : Ar.itoaB 3 = ⟨#[51]⟩ := by
  show (⟨(Lib.decDigits 3).toArray⟩ : ByteArray) = _
  rw [Lib.decDigits_one (by omega)]; rfl
theorem ex1 : Ar.checkOf exA = 0 := by rfl
theorem ex2 : (Ar.movesRes exA).length = 22 := by rfl
theorem ex3 : Ar.innerErr exA 1 = 0 := by rfl
theorem ex4 : Ar.innerRes exA 1 = exB := by rfl
theorem ex5 : Ar.checkOf exB = 0 := by rfl
theorem ex6 : Ar.showB exB = exT := by
  have e : Ar.partsB exB = [Ar.kindB ⟨false, 1⟩ ++ Ar.itoaB 1, Ar.kindB ⟨false, 3⟩ ++ Ar.itoaB 3, Ar.kindB ⟨true, 2⟩ ++ Ar.itoaB 2, ⟨#[106, 117, 109, 112, 115]⟩] := rfl
  unfold Ar.showB
  rw [e, it1, it2, it3]
  rfl
theorem ex7 : Ar.fqErr exA ⟨1, 0, 1, 0⟩ = 0 := by rfl
theorem ex8 : (Ar.underRes exA ⟨1, 0, 1, 0⟩).length = 4 := by rfl
theorem ex9 : Ar.findErr exA ⟨1, 0, 3, 0⟩ = 0 := by rfl
theorem ex10 : Ar.otherOf exA ⟨1, 0, 3, 0⟩ = true := by rfl
theorem ex11 : readMv exS 2 (sg 2) = ⟨1, 2, 2, 1⟩ := by rfl
theorem ex12 : readMv exS 1 (sg 1) = ⟨1, 0, 1, 0⟩ := by rfl
theorem ex13 : readMv exS 3 (sg 3) = ⟨1, 0, 3, 0⟩ := by rfl
theorem ex14 : Ar.textRes ⟨1, 2, 2, 1⟩ = (exS, 0) := by
  have e : Ar.textRes ⟨1, 2, 2, 1⟩ = (Ar.itoaB 1 ++ (⟨#[46]⟩ ++ Ar.itoaB 2) ++ ⟨#[61]⟩ ++ Ar.itoaB 1, 0) := rfl
  rw [e, it1, it2]
  rfl
theorem ex15 : Ar.textRes ⟨1, 0, 1, 0⟩ = (⟨#[49, 63]⟩, 0) := by
  have e : Ar.textRes ⟨1, 0, 1, 0⟩ = (Ar.itoaB 1 ++ ⟨#[63]⟩ ++ ⟨#[]⟩, 0) := rfl
  rw [e, it1]
  rfl
theorem ex16 : Ar.textRes ⟨1, 0, 3, 0⟩ = (⟨#[49, 33, 48]⟩, 0) := by
  have e : Ar.textRes ⟨1, 0, 3, 0⟩ = (Ar.itoaB 1 ++ ⟨#[33]⟩ ++ Ar.itoaB 0, 0) := rfl
  rw [e, it1, it0]
  rfl
end Go.Proofs.YtepdlghobopdbaaGreatDoor
