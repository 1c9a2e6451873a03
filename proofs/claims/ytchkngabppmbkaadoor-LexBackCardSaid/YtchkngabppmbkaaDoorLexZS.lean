/-
  WALKS: lex.Tokens at a text without an error.
-/
import Derived.Test.YtchkngabppmbkaaDoorLexZR
import Derived.Test.YtchkngabppmbkaaDoorLexP
import Derived.Test.YtchkngabppmbkaaDoorSpecV
namespace Go.Proofs.YtchkngabppmbkaaDoor
open Go.RowKit

theorem tokensOf_lenS (s : ByteArray) : (Lx.tokensOf s).1.length ≤ 900 := by
  by_cases h : (Lx.tokensOf s).2.2 = 0
  · exact (Lx.tokensOf_ok h).2.2.2.1
  · rw [Lx.tokensOf_bad h]; simp
theorem toksOf_lenS (s : ByteArray) : (Lx.toksOf s).length ≤ 900 := by rw [Lx.toksOf, List.length_map]; exact tokensOf_lenS s
theorem tksLaterS {w w' : World} {A : Option Addr} {l : List Lx.Tk} (h : Tks w w.heap.size A l) (hB : Below w.heap.size w w') : Tks w' w'.heap.size A l := (h.below hB).mono hB.size
theorem toksOf_texts {s : ByteArray} : ∀ x ∈ Lx.toksOf s, x.text.size ≤ 2500 := fun x hx => by
  by_cases h : (Lx.tokensOf s).2.2 = 0
  · have h1 := (Lx.tokensOf_ok h).1
    rw [Lx.toksOf_ok h] at hx
    obtain ⟨z, hz, rfl⟩ := List.mem_map.1 hx
    have := Lx.piecesAt_ge z (List.mem_filter.1 hz).1
    show z.text.size ≤ 2500
    omega
  · unfold Lx.toksOf at hx
    rw [Lx.tokensOf_bad h] at hx; cases hx
/-- lex.Tokens at any text. -/
theorem tokens_err (s : ByteArray) (hs : s.size ≤ 281474976710656) (w : World) (hG : GV w) (er : Nat) (he : (Lx.tokensOf s).2.2 = er) (L : List Lx.Tk) (hL : Lx.toksOf s = L) :
    Calls Tryd.prog 19 #[.string s] w fun e w' => ∃ ao cap at', e = .returned (.tuple #[.slice ao L.length cap, .int .i64 at', .int .i64 (er : Int)]) ∧ Tks w' w'.heap.size ao L ∧ NilOk ao cap L.length ∧ Below w.heap.size w w' := (tokens_any s hs w hG).mono (by
  rintro e w' ⟨v, hee, hown, hB⟩
  obtain ⟨ao, cap, rfl, ht⟩ := own_tks hown
  have hl : L.length = (Lx.tokensOf s).1.length := by rw [← hL, Lx.toksOf, List.length_map]
  have ht' : Tks w' w'.heap.size ao L := by rw [← hL]; exact ht
  have hnn : NilOk ao cap L.length := by rw [hl]; exact nilOk_of_own hown
  rw [he] at hee
  exact ⟨ao, cap, _, by rw [hl]; exact hee, ht', hnn, hB⟩)
end Go.Proofs.YtchkngabppmbkaaDoor
