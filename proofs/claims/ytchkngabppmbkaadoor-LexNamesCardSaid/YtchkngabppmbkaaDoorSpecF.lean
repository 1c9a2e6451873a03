/-
  PLAIN: tokens as values: right ones, equal ones, where they begin.
-/
import Derived.Test.YtchkngabppmbkaaDoorSpecC
namespace Go.Proofs.YtchkngabppmbkaaDoor.Lx

structure Tk where
  kind : Int
  text : ByteArray
  pos : Int
  deriving DecidableEq
def Item.tk (x : Item) : Tk := ⟨x.kind, x.text, x.pos⟩
def tokOk (t : Tk) : Bool := decide (t.text.size ≠ 0) && (decide ((piece t.text 0).2.2 = 0) && decide (((piece t.text 0).1 : Int) = t.kind ∧ (piece t.text 0).2.1 = t.text))
def placesOf (x : Tk) (l : List Tk) : List Int := (l.filter (fun y => decide (y.kind = x.kind ∧ y.text = x.text))).map (·.pos)
end Go.Proofs.YtchkngabppmbkaaDoor.Lx
