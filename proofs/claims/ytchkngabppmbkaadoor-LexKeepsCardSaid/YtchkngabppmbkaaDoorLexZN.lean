/-
  WALKS: lex.Kept.
-/
import Derived.Test.YtchkngabppmbkaaDoorLexZM
import Derived.Test.YtchkngabppmbkaaDoorLexP
import Derived.Test.YtchkngabppmbkaaDoorSpecR
namespace Go.Proofs.YtchkngabppmbkaaDoor
open Go.RowKit

def splV (x : Lx.Spl) : Value := .agg #[.int .i64 x.lo, .int .i64 x.hi, .string x.text]
theorem spls_one (W : World) (x : Lx.Spl) : Spls (W.alloc (.cells #[.int .i64 x.lo, .int .i64 x.hi, .string x.text] 56)) (W.alloc (.cells #[.int .i64 x.lo, .int .i64 x.hi, .string x.text] 56)).heap.size (some ⟨W.heap.size, 0, none⟩) [x] := fun _ =>
  ⟨_, _, rfl, by simp, fun i y hy => by
    rcases i with _ | i
    · simp at hy; subst hy
      exact ⟨cells_new_at W _ _ 0 _ rfl, cells_new_at W _ _ 1 _ rfl, cells_new_at W _ _ 2 _ rfl⟩
    · simp at hy⟩
theorem spls_two (w : World) (x : Lx.Spl) : Spls ((w.alloc (.cells #[.int .i64 x.lo, .int .i64 x.hi, .string x.text] 56)).alloc (.cells #[.int .i64 x.lo, .int .i64 x.hi, .string x.text] 56)) ((w.alloc (.cells #[.int .i64 x.lo, .int .i64 x.hi, .string x.text] 56)).alloc (.cells #[.int .i64 x.lo, .int .i64 x.hi, .string x.text] 56)).heap.size (some ⟨w.heap.size + 1, 0, none⟩) [x] := by
  have h := spls_one (w.alloc (.cells #[.int .i64 x.lo, .int .i64 x.hi, .string x.text] 56)) x
  simpa using h
theorem tksLater {w w' : World} {A : Option Addr} {l : List Lx.Tk} (h : Tks w w.heap.size A l) (hB : Below w.heap.size w w') : Tks w' w'.heap.size A l := (h.below hB).mono hB.size
theorem toksOf_pos {s : ByteArray} : ∀ x ∈ Lx.toksOf s, 0 ≤ x.pos ∧ x.pos ≤ 2500 := fun x hx => by
  by_cases h : (Lx.tokensOf s).2.2 = 0
  · have h1 := (Lx.tokensOf_ok h).1
    rw [Lx.toksOf_ok h] at hx
    obtain ⟨z, hz, rfl⟩ := List.mem_map.1 hx
    have := Lx.piecesAt_ge z (List.mem_filter.1 hz).1
    show 0 ≤ (z.pos : Int) ∧ (z.pos : Int) ≤ 2500
    omega
  · unfold Lx.toksOf at hx
    rw [Lx.tokensOf_bad h] at hx; cases hx
theorem tokensOf_len' (s : ByteArray) : (Lx.tokensOf s).1.length ≤ 900 := by
  by_cases h : (Lx.tokensOf s).2.2 = 0
  · exact (Lx.tokensOf_ok h).2.2.2.1
  · rw [Lx.tokensOf_bad h]; simp
/-- What a call leaves that returns two numbers and an error. -/
def KeptRet (R : Nat × Nat × Nat) (w : World) (e : Ending) (w' : World) : Prop := e = .returned (.tuple #[.int .i64 (R.1 : Int), .int .i64 (R.2.1 : Int), .int .i64 (R.2.2 : Int)]) ∧ Below w.heap.size w w'
theorem keptRet {R : Nat × Nat × Nat} {w w' : World} {e : Ending} {a b n : Nat} (hR : R = (a, b, n)) (he : e = .returned (.tuple #[.int .i64 (a : Int), .int .i64 (b : Int), .int .i64 (n : Int)])) (hB : Below w.heap.size w w') : KeptRet R w e w' := by
  subst hR; exact ⟨he, hB⟩

set_option maxRecDepth 100000 in
set_option maxHeartbeats 4000000 in
theorem kept_any (s : ByteArray) (x : Lx.Spl) (w : World) (hs : s.size ≤ 281474976710656) (hx : x.text.size ≤ 1099511627776) (hG : GV w) :
    Calls Tryd.prog 44 #[.string s, .agg #[.int .i64 x.lo, .int .i64 x.hi, .string x.text]] w (KeptRet (Lx.keptOf s x) w) := by
  have HA := Lib.hid (fun A c W hS => apply_any s [x] A c W hs (by simp) (fun y hy => by rw [List.mem_singleton.1 hy]; exact hx) hS)
  simp only [List.length_singleton] at HA
  have HS0 := Lib.hid (spls_two w x)
  have hB0 : Below w.heap.size w ((w.alloc (.cells #[.int .i64 x.lo, .int .i64 x.hi, .string x.text] 56)).alloc (.cells #[.int .i64 x.lo, .int .i64 x.hi, .string x.text] 56)) := ((Below.refl _ _).alloc (Nat.le_refl _) _).alloc (by simp) _
  obtain ⟨R, hR⟩ : ∃ R, Lx.keptOf s x = R := ⟨_, rfl⟩
  rw [hR]
  unfold Lx.keptOf at hR
  by_cases h0 : (Lx.applyOf s [x]).2 = 0
  · rw [if_neg (by omega)] at hR
    have HT1 := Lib.hid (fun W (hB : Below w.heap.size w W) => tokens_any s hs W (hG.below hB))
    have hTz : (Lx.applyOf s [x]).1.size ≤ 5000000000000 := by
      obtain ⟨h1, h2, h3, h4, h5⟩ := Lx.applyOne h0
      have e1 := Lx.bytes_length (Lx.applyOf s [x]).1
      rw [h5, List.length_append, List.length_append, List.length_take, List.length_drop, Lx.bytes_length, Lx.bytes_length] at e1
      omega
    have hs0 := (Lx.applyOne h0).1
    have e0 : (((Lx.applyOf s [x]).2 : Int) != 0) = false := by rw [bne_eq_false_iff_eq]; omega
    have hT2' : (Lx.applyOf s [x]).1.size ≤ 281474976710656 := by omega
    have HT2 := Lib.hid (fun W (hB : Below w.heap.size w W) => tokens_any (Lx.applyOf s [x]).1 hT2' W (hG.below hB))
    generalize Lx.applyOf s [x] = P at *
    by_cases h1 : (Lx.tokensOf s).2.2 = 0
    · rw [if_neg (by omega)] at hR
      by_cases h2 : (Lx.tokensOf P.1).2.2 = 0
      · rw [if_neg (by omega)] at hR
        have hPz := (Lx.tokensOf_ok h2).1
        have HCM := Lib.hid (fun A C ca cc bg W (hA : Tks W W.heap.size A (Lx.toksOf s)) (hC : Tks W W.heap.size C (Lx.toksOf P.1)) (hg : W.cell? ⟨bg, 0, none⟩ = some (.int .i64 ((P.1.size : Int) - s.size))) =>
          common_toks (Lx.toksOf s) (Lx.toksOf P.1) ((P.1.size : Int) - s.size) A C ca cc bg W (by rw [Lx.toksOf, List.length_map]; have := tokensOf_len' s; omega) (by rw [Lx.toksOf, List.length_map]; have := tokensOf_len' P.1; omega) hA hC (fun y hy => by have := toksOf_pos y hy; omega) (by omega) (by omega) hg)
        have hl1 : (Lx.toksOf s).length = (Lx.tokensOf s).1.length := by rw [Lx.toksOf, List.length_map]
        have hl2 : (Lx.toksOf P.1).length = (Lx.tokensOf P.1).1.length := by rw [Lx.toksOf, List.length_map]
        rw [hl1, hl2] at HCM
        have e1 : (((Lx.tokensOf s).2.2 : Int) != 0) = false := by rw [bne_eq_false_iff_eq]; omega
        have e2 : (((Lx.tokensOf P.1).2.2 : Int) != 0) = false := by rw [bne_eq_false_iff_eq]; omega
        have hw1 : IntKind.i64.wrap ((P.1.size : Int) - s.size) = (P.1.size : Int) - s.size := IntWalk.i64_in _ (by omega)
        have HV := Lib.hid hR.symm
        have HTK1 := Lib.hid (show ∀ (w : World) (base : Nat) (v : Value), w.ownsRow base 63 3 v (Lx.tokensOf s).1.length (toksCells (Lx.tokensOf s).1) → ∃ ao cap, v = .slice ao (Lx.tokensOf s).1.length cap ∧ Tks w w.heap.size ao (Lx.toksOf s) from fun _ _ _ h => own_tks h)
        have HTK2 := Lib.hid (show ∀ (w : World) (base : Nat) (v : Value), w.ownsRow base 63 3 v (Lx.tokensOf P.1).1.length (toksCells (Lx.tokensOf P.1).1) → ∃ ao cap, v = .slice ao (Lx.tokensOf P.1).1.length cap ∧ Tks w w.heap.size ao (Lx.toksOf P.1) from fun _ _ _ h => own_tks h)
        generalize Lx.toksOf s = L1 at *
        generalize Lx.toksOf P.1 = L2 at *
        generalize Lx.tokensOf s = T1 at *
        generalize Lx.tokensOf P.1 = T2 at *
        clear hR hl1 hl2 hG h0 h1 h2
        go_enter Tryd.func44, Tryd.ntmps44
        go_wp2_with (first
          | (go_at_call 35; refine (HA.out _ _ _ HS0.out).mono ?_; rintro e w1 ⟨rfl, hB1⟩; have hB1 := hB0.trans (hB1.mono hB0.size))
          | (go_at_call 19; refine (HT2.out w2 hB2').mono ?_; rintro e w3 ⟨v2, rfl, hown2, hB3⟩; obtain ⟨ao2, cap2, rfl, htk2⟩ := HTK2.out _ _ _ hown2; have hB3' := hB2'.trans (hB3.mono hB2'.size); have htk1' := tksLater htk1 hB3)
          | (go_at_call 19; refine (HT1.out w1 hB1).mono ?_; rintro e w2 ⟨v1, rfl, hown1, hB2⟩; obtain ⟨ao1, cap1, rfl, htk1⟩ := HTK1.out _ _ _ hown1; have hB2' := hB1.trans (hB2.mono hB1.size))
          | (go_at_call 75; refine (HCM.out _ _ _ _ _ _ (tksLater htk1' ((Below.refl _ w3).alloc (Nat.le_refl _) _)) (tksLater htk2 ((Below.refl _ w3).alloc (Nat.le_refl _) _)) (cells_new_at w3 _ _ 0 _ rfl)).mono ?_; rintro e w5 ⟨rfl, hB5⟩))
        have hsz3 := hB3'.size
        go_ret3
        exact keptRet HV.out rfl ((hB3'.alloc hsz3 _).trans (hB5.mono (by simp; omega)))
      · rw [if_pos h2] at hR
        have HV := Lib.hid hR.symm
        have e1 : (((Lx.tokensOf s).2.2 : Int) != 0) = false := by rw [bne_eq_false_iff_eq]; omega
        have e2 : (((Lx.tokensOf P.1).2.2 : Int) != 0) = true := by rw [bne_iff_ne]; omega
        generalize Lx.tokensOf s = T1 at *
        generalize Lx.tokensOf P.1 = T2 at *
        clear hR hG h0 h1 h2
        go_enter Tryd.func44, Tryd.ntmps44
        go_wp2_with (first
          | (go_at_call 35; refine (HA.out _ _ _ HS0.out).mono ?_; rintro e w1 ⟨rfl, hB1⟩; have hB1 := hB0.trans (hB1.mono hB0.size))
          | (go_at_call 19; refine (HT2.out w2 hB2').mono ?_; rintro e w3 ⟨v2, rfl, hown2, hB3⟩; have hB3' := hB2'.trans (hB3.mono hB2'.size))
          | (go_at_call 19; refine (HT1.out w1 hB1).mono ?_; rintro e w2 ⟨v1, rfl, hown1, hB2⟩; have hB2' := hB1.trans (hB2.mono hB1.size)))
        go_ret3
        exact keptRet HV.out rfl hB3'
    · rw [if_pos h1] at hR
      have HV := Lib.hid hR.symm
      have e1 : (((Lx.tokensOf s).2.2 : Int) != 0) = true := by rw [bne_iff_ne]; omega
      generalize Lx.tokensOf s = T1 at *
      clear hR hG h0 h1
      go_enter Tryd.func44, Tryd.ntmps44
      go_wp2_with (first
        | (go_at_call 35; refine (HA.out _ _ _ HS0.out).mono ?_; rintro e w1 ⟨rfl, hB1⟩; have hB1 := hB0.trans (hB1.mono hB0.size))
        | (go_at_call 19; refine (HT1.out w1 hB1).mono ?_; rintro e w2 ⟨v1, rfl, hown1, hB2⟩; have hB2' := hB1.trans (hB2.mono hB1.size)))
      go_ret3
      exact keptRet HV.out rfl hB2'
  · rw [if_pos h0] at hR
    have HV := Lib.hid hR.symm
    have e0 : (((Lx.applyOf s [x]).2 : Int) != 0) = true := by rw [bne_iff_ne]; omega
    generalize Lx.applyOf s [x] = P at *
    clear hR hG h0
    go_enter Tryd.func44, Tryd.ntmps44
    go_wp2_with (go_at_call 35; refine (HA.out _ _ _ HS0.out).mono ?_; rintro e w1 ⟨rfl, hB1⟩; have hB1 := hB0.trans (hB1.mono hB0.size))
    go_ret3
    exact keptRet HV.out rfl hB1
end Go.Proofs.YtchkngabppmbkaaDoor
