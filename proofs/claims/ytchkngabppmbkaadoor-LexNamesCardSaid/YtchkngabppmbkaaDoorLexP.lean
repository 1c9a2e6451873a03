/-
  WALKS: lex.Rename.
-/
import Derived.Test.YtchkngabppmbkaaDoorLexM
import Derived.Test.YtchkngabppmbkaaDoorLexO
import Derived.Test.YtchkngabppmbkaaDoorLexJ
import Derived.Test.YtchkngabppmbkaaDoorSpecG
namespace Go.Proofs.YtchkngabppmbkaaDoor
open Go.RowKit

theorem toksCells_get : ∀ (L : List Lx.Item) (k : Nat) (x : Lx.Item), L[k]? = some x → ∀ (j : Nat) (u : Value), (tokCells x)[j]? = some u → (toksCells L)[k * 3 + j]? = some u
  | [], k, x, h => by simp at h
  | y :: ys, 0, x, h => fun j u hj => by
    simp only [List.getElem?_cons_zero, Option.some.injEq] at h
    subst h
    have : j < (tokCells y).length := (List.getElem?_eq_some_iff.1 hj).1
    rw [toksCells, List.flatMap_cons, Nat.zero_mul, Nat.zero_add, List.getElem?_append_left this]
    exact hj
  | y :: ys, k + 1, x, h => fun j u hj => by
    simp only [List.getElem?_cons_succ] at h
    rw [toksCells, List.flatMap_cons, List.getElem?_append_right (by simp [tokCells]; omega)]
    have := toksCells_get ys k x h j u hj
    rw [toksCells] at this
    rw [← this]; congr 1; simp [tokCells]; omega
/-- The tokens that a call handed on, read as a slice of tokens. -/
theorem own_tks {w : World} {base : Nat} {v : Value} {L : List Lx.Item} (h : w.ownsRow base 63 3 v L.length (toksCells L)) : ∃ ao cap, v = .slice ao L.length cap ∧ Tks w w.heap.size ao (L.map Lx.Item.tk) := by
  by_cases hn : L.length = 0
  · obtain ⟨ao, c, rfl⟩ := own_formO h
    have : L = [] := List.eq_nil_of_length_eq_zero hn
    subst this
    exact ⟨ao, c, rfl, fun hh => absurd rfl hh⟩
  · obtain ⟨g, cap, rfl, _, hlt, hc⟩ := ownsRow_cells h hn
    refine ⟨_, cap, rfl, fun _ => ⟨g, 0, rfl, hlt, fun i x hx => ?_⟩⟩
    rw [List.getElem?_map] at hx
    obtain ⟨y, hy, rfl⟩ := Option.map_eq_some_iff.1 hx
    rw [Nat.zero_add]
    exact ⟨hc _ _ (toksCells_get L i y hy 0 _ rfl), hc _ _ (toksCells_get L i y hy 1 _ rfl), hc _ _ (toksCells_get L i y hy 2 _ rfl)⟩

theorem own_ints {w : World} {base : Nat} {v : Value} {L : List Int} (h : w.ownsRow base 3 1 v L.length (intCells L)) : ∃ ao cap, v = .slice ao L.length cap ∧ ∀ j p, L[j]? = some p → ∃ g, ao = some ⟨g, 0, none⟩ ∧ g < w.heap.size ∧ w.cell? ⟨g, j, none⟩ = some (.int .i64 p) := by
  by_cases hn : L.length = 0
  · obtain ⟨ao, c, rfl⟩ := own_formO h
    have : L = [] := List.eq_nil_of_length_eq_zero hn
    subst this
    exact ⟨ao, c, rfl, fun j p hh => by simp at hh⟩
  · obtain ⟨g, cap, rfl, _, hlt, hc⟩ := ownsRow_cells h hn
    exact ⟨_, cap, rfl, fun j p hp => ⟨g, rfl, hlt, hc j _ (by simp [intCells, hp])⟩⟩
/-- Two names' tokens are asked about. -/
theorem right2_any (old name : ByteArray) (W : World) (hG : GV W) (ho : old.size ≤ 281474976710656) (hn : name.size ≤ 281474976710656) (W3 : World)
    (h3 : W3 = (((W.alloc (.cells #[.int .u8 1, .string old, .int .i64 0] 63)).alloc (.cells #[.int .u8 1, .string name, .int .i64 0] 63)).alloc (.cells #[.int .u8 1, .string old, .int .i64 0, .int .u8 1, .string name, .int .i64 0] 63))) :
    Calls Tryd.prog 76 #[.slice (some ⟨W.heap.size + 1 + 1, 0, none⟩) 2 2] W3 fun e w' => e = .returned (.bool ([Lx.nameTk old, Lx.nameTk name].all Lx.tokOk)) ∧ Below W.heap.size W w' ∧ (W.heap.size < w'.heap.size ∧ W.heap.size + 1 < w'.heap.size) ∧
      (w'.cell? ⟨W.heap.size, 0, none⟩ = some (.int .u8 1) ∧ w'.cell? ⟨W.heap.size, 1, none⟩ = some (.string old) ∧ w'.cell? ⟨W.heap.size, 2, none⟩ = some (.int .i64 0)) ∧
      (w'.cell? ⟨W.heap.size + 1, 0, none⟩ = some (.int .u8 1) ∧ w'.cell? ⟨W.heap.size + 1, 1, none⟩ = some (.string name) ∧ w'.cell? ⟨W.heap.size + 1, 2, none⟩ = some (.int .i64 0)) := by
  have hsz : W3.heap.size = W.heap.size + 3 := by rw [h3]; simp
  have hb : Below W.heap.size W W3 := by rw [h3]; exact (((Below.refl _ _).alloc (Nat.le_refl _) _).alloc (by simp) _).alloc (by simp; omega) _
  have hc : ∀ j u, [(.int .u8 1 : Value), .string old, .int .i64 0, .int .u8 1, .string name, .int .i64 0][j]? = some u → W3.cell? ⟨W.heap.size + 2, j, none⟩ = some u := fun j u hu => by
    have := cells_new_at ((W.alloc (.cells #[.int .u8 1, .string old, .int .i64 0] 63)).alloc (.cells #[.int .u8 1, .string name, .int .i64 0] 63)) _ 63 j u hu
    rw [h3]; simpa using this
  have ha : ∀ j u, [(.int .u8 1 : Value), .string old, .int .i64 0][j]? = some u → W3.cell? ⟨W.heap.size, j, none⟩ = some u := fun j u hu => by
    have := cells_new_at W _ 63 j u hu
    rw [h3, World.cell?_alloc_past _ _ _ (by simp; omega), World.cell?_alloc_past _ _ _ (by simp)]; exact this
  have hd : ∀ j u, [(.int .u8 1 : Value), .string name, .int .i64 0][j]? = some u → W3.cell? ⟨W.heap.size + 1, j, none⟩ = some u := fun j u hu => by
    have := cells_new_at (W.alloc (.cells #[.int .u8 1, .string old, .int .i64 0] 63)) _ 63 j u hu
    rw [h3, World.cell?_alloc_past _ _ _ (by simp)]; simpa using this
  have htk : Tks W3 W3.heap.size (some ⟨W.heap.size + 1 + 1, 0, none⟩) [Lx.nameTk old, Lx.nameTk name] := fun _ => ⟨_, _, rfl, by omega, fun i x hx => by
    rcases i with _ | _ | i
    · simp at hx; subst hx; exact ⟨hc 0 _ rfl, hc 1 _ rfl, hc 2 _ rfl⟩
    · simp at hx; subst hx; exact ⟨hc 3 _ rfl, hc 4 _ rfl, hc 5 _ rfl⟩
    · simp at hx⟩
  refine (right_any [Lx.nameTk old, Lx.nameTk name] _ 2 W3 (hG.below hb) (by simp) (fun x hx => by simp at hx; rcases hx with rfl | rfl <;> assumption) htk).mono ?_
  rintro e w' ⟨rfl, hB⟩
  have hk : ∀ b j u, b < W3.heap.size → W3.cell? ⟨b, j, none⟩ = some u → w'.cell? ⟨b, j, none⟩ = some u := fun b j u hb hu => (hB.cell (p := ⟨b, j, none⟩) hb).trans hu
  have := hB.size
  exact ⟨rfl, hb.trans (hB.mono (by omega)), ⟨by omega, by omega⟩, ⟨hk _ _ _ (by omega) (ha 0 _ rfl), hk _ _ _ (by omega) (ha 1 _ rfl), hk _ _ _ (by omega) (ha 2 _ rfl)⟩, ⟨hk _ _ _ (by omega) (hd 0 _ rfl), hk _ _ _ (by omega) (hd 1 _ rfl), hk _ _ _ (by omega) (hd 2 _ rfl)⟩⟩

set_option maxRecDepth 100000 in
set_option maxHeartbeats 4000000 in
theorem rename_any (s old name : ByteArray) (w : World) (hz : s.size ≤ 281474976710656) (ho : old.size ≤ 1099511627776) (hn : name.size ≤ 68719476736) (hG : GV w) :
    Calls Tryd.prog 46 #[.string s, .string old, .string name] w fun e w' => e = .returned (.tuple #[.string (Lx.renameOf s old name).1, .int .i64 ((Lx.renameOf s old name).2 : Int)]) ∧ Below w.heap.size w w' := by
  have HT := Lib.hid (tokens_any s hz w hG)
  by_cases h0 : (Lx.tokensOf s).2.2 ≠ 0
  · rw [Lx.renameOf, if_pos h0]
    generalize (Lx.tokensOf s).1 = L at *
    generalize (Lx.tokensOf s).2.1 = p at *
    generalize (Lx.tokensOf s).2.2 = er at *
    have h0' : ((er : Int) != 0) = true := by rw [bne_iff_ne]; omega
    clear h0
    go_enter Tryd.func46, Tryd.ntmps46
    go_wp2_with (go_at_call 19; refine HT.out.mono ?_; rintro e w1 ⟨v, rfl, hown, hB1⟩)
    go_ret2
    exact ⟨rfl, hB1⟩
  · have h0 : (Lx.tokensOf s).2.2 = 0 := by omega
    obtain ⟨hsm, -, -, h900, hord⟩ := Lx.tokensOf_ok h0
    rw [Lx.renameOf, if_neg (by omega)]
    have hap := Lx.places_apart s.size (Lx.nameTk old) _ _ hord
    have hP1 := placesOf_len (Lx.nameTk old) (Lx.toksOf s)
    have hP2 := placesOf_len (Lx.nameTk name) (Lx.toksOf s)
    have hlt : (Lx.toksOf s).length = (Lx.tokensOf s).1.length := by simp [Lx.toksOf]
    rw [hlt] at hP1 hP2
    rw [h0] at HT
    have hTL : (Lx.toksOf s) = (Lx.tokensOf s).1.map Lx.Item.tk := rfl
    change Lx.apart s.size old.size (0 : Nat) (Lx.placesOf (Lx.nameTk old) (Lx.toksOf s)) at hap
    generalize (Lx.tokensOf s).2.1 = p at *
    generalize (Lx.tokensOf s).1 = L at *
    generalize Lx.toksOf s = TL at *
    clear h0 hord
    have HAP := Lib.hid hap
    clear hap
    obtain ⟨RG, hRG⟩ : ∃ RG, [Lx.nameTk old, Lx.nameTk name].all Lx.tokOk = RG := ⟨_, rfl⟩
    rw [hRG]
    have HRG := Lib.hid hRG
    have HTL := Lib.hid hTL
    clear hRG hTL
    have ho' : old.size ≤ 281474976710656 := by omega
    have hn' : name.size ≤ 281474976710656 := by omega
    have hTl : TL.length ≤ 1000000 := by omega
    have HLen : TL.length = L.length := hlt
    obtain ⟨F, hF⟩ : ∃ F, Lx.placesOf (Lx.nameTk old) TL = F := ⟨_, rfl⟩
    obtain ⟨F2, hF2⟩ : ∃ F2, Lx.placesOf (Lx.nameTk name) TL = F2 := ⟨_, rfl⟩
    cases RG with
    | false =>
      rw [if_pos rfl]
      go_enter Tryd.func46, Tryd.ntmps46
      go_wp2_with (first | (go_at_call 19; refine HT.out.mono ?_; rintro e w1 ⟨v, rfl, hown, hB1⟩; obtain ⟨ao, cap, rfl, htk⟩ := own_tks hown; rw [← HTL.out] at htk) | (go_at_call 76; go_loud (refine (right2_any old name w1 (hG.below hB1) ho' hn' _ rfl).mono ?_; rw [HRG.out]; rintro e w4 ⟨rfl, hB4, ⟨hb0, hb1⟩, ⟨a0, a1, a2⟩, ⟨b0, b1, b2⟩⟩; have htk4 := (htk.below hB4).mono hB4.size)))
      go_ret2
      exact ⟨rfl, hB1.trans (hB4.mono hB1.size)⟩
    | true =>
      rw [if_neg (by decide)]
      rw [hF] at hP1 HAP ⊢
      rw [hF2] at hP2 ⊢
      by_cases hf0 : F.length = 0
      · rw [if_pos hf0]
        have hf0' : ((F.length : Int) == 0) = true := by rw [beq_iff_eq]; omega
        go_enter Tryd.func46, Tryd.ntmps46
        go_wp2_with (first | (go_at_call 19; refine HT.out.mono ?_; rintro e w1 ⟨v, rfl, hown, hB1⟩; obtain ⟨ao, cap, rfl, htk⟩ := own_tks hown; rw [← HTL.out] at htk) | (go_at_call 76; go_loud (refine (right2_any old name w1 (hG.below hB1) ho' hn' _ rfl).mono ?_; rw [HRG.out]; rintro e w4 ⟨rfl, hB4, ⟨hb0, hb1⟩, ⟨a0, a1, a2⟩, ⟨b0, b1, b2⟩⟩; have htk4 := (htk.below hB4).mono hB4.size)) | (go_at_call 77; go_loud (rw [← HLen] ; refine (places_any (Lx.nameTk old) TL ao cap w4 hTl htk4).mono ?_; rintro e w5 ⟨v5, rfl, hown5, hB5⟩; rw [hF] at hown5; obtain ⟨ao5, cap5, rfl, hc5⟩ := own_ints hown5; have b0' := (hB5.cell (p := ⟨w1.heap.size + 1, 0, none⟩) hb1).trans b0; have b1' := (hB5.cell (p := ⟨w1.heap.size + 1, 1, none⟩) hb1).trans b1; have b2' := (hB5.cell (p := ⟨w1.heap.size + 1, 2, none⟩) hb1).trans b2; have htk5 := (htk4.below hB5).mono hB5.size)))
        go_ret2
        exact ⟨rfl, (hB1.trans (hB4.mono hB1.size)).trans (hB5.mono (Nat.le_trans hB1.size hB4.size))⟩
      · rw [if_neg hf0]
        have hf0' : ((F.length : Int) == 0) = false := by rw [beq_eq_false_iff_ne]; omega
        by_cases hf2 : 0 < F2.length
        · rw [if_pos hf2]
          have hf2' : (0 : Int) < F2.length := by omega
          go_enter Tryd.func46, Tryd.ntmps46
          go_wp2_with (first | (go_at_call 19; refine HT.out.mono ?_; rintro e w1 ⟨v, rfl, hown, hB1⟩; obtain ⟨ao, cap, rfl, htk⟩ := own_tks hown; rw [← HTL.out] at htk) | (go_at_call 76; go_loud (refine (right2_any old name w1 (hG.below hB1) ho' hn' _ rfl).mono ?_; rw [HRG.out]; rintro e w4 ⟨rfl, hB4, ⟨hb0, hb1⟩, ⟨a0, a1, a2⟩, ⟨b0, b1, b2⟩⟩; have htk4 := (htk.below hB4).mono hB4.size)) | (go_at_call 77; rw [← HLen]; refine (places_any (Lx.nameTk name) TL ao cap w5 hTl htk5).mono ?_; rintro e w6 ⟨v6, rfl, hown6, hB6⟩; rw [hF2] at hown6; obtain ⟨ao6, cap6, rfl, hc6⟩ := own_ints hown6) | (go_at_call 77; go_loud (rw [← HLen] ; refine (places_any (Lx.nameTk old) TL ao cap w4 hTl htk4).mono ?_; rintro e w5 ⟨v5, rfl, hown5, hB5⟩; rw [hF] at hown5; obtain ⟨ao5, cap5, rfl, hc5⟩ := own_ints hown5; have b0' := (hB5.cell (p := ⟨w1.heap.size + 1, 0, none⟩) hb1).trans b0; have b1' := (hB5.cell (p := ⟨w1.heap.size + 1, 1, none⟩) hb1).trans b1; have b2' := (hB5.cell (p := ⟨w1.heap.size + 1, 2, none⟩) hb1).trans b2; have htk5 := (htk4.below hB5).mono hB5.size)))
          go_ret2
          exact ⟨rfl, ((hB1.trans (hB4.mono hB1.size)).trans (hB5.mono (Nat.le_trans hB1.size hB4.size))).trans (hB6.mono (Nat.le_trans (Nat.le_trans hB1.size hB4.size) hB5.size))⟩
        · rw [if_neg hf2]
          have hfl : F.length ≤ 900 := by omega
          have hm1 : -(900 * 1099511627776) ≤ (F.length : Int) * ((name.size : Int) - old.size) := by
            have : (F.length : Int) * (old.size : Int) ≤ 900 * 1099511627776 := Int.mul_le_mul (by omega) (by omega) (by omega) (by omega)
            have h2 : 0 ≤ (F.length : Int) * (name.size : Int) := Int.mul_nonneg (by omega) (by omega)
            rw [Int.mul_sub]; omega
          have hm2 : (F.length : Int) * ((name.size : Int) - old.size) ≤ 900 * 1099511627776 := by
            have : (F.length : Int) * (name.size : Int) ≤ 900 * 1099511627776 := Int.mul_le_mul (by omega) (by omega) (by omega) (by omega)
            have h2 : 0 ≤ (F.length : Int) * (old.size : Int) := Int.mul_nonneg (by omega) (by omega)
            rw [Int.mul_sub]; omega
          by_cases hbig : 2500 < (s.size : Int) + F.length * ((name.size : Int) - old.size)
          · rw [if_pos hbig]
            go_enter Tryd.func46, Tryd.ntmps46
            go_wp2_with (first | (go_at_call 19; refine HT.out.mono ?_; rintro e w1 ⟨v, rfl, hown, hB1⟩; obtain ⟨ao, cap, rfl, htk⟩ := own_tks hown; rw [← HTL.out] at htk) | (go_at_call 76; go_loud (refine (right2_any old name w1 (hG.below hB1) ho' hn' _ rfl).mono ?_; rw [HRG.out]; rintro e w4 ⟨rfl, hB4, ⟨hb0, hb1⟩, ⟨a0, a1, a2⟩, ⟨b0, b1, b2⟩⟩; have htk4 := (htk.below hB4).mono hB4.size)) | (go_at_call 77; rw [← HLen]; refine (places_any (Lx.nameTk name) TL ao cap w5 hTl htk5).mono ?_; rintro e w6 ⟨v6, rfl, hown6, hB6⟩; rw [hF2] at hown6; obtain ⟨ao6, cap6, rfl, hc6⟩ := own_ints hown6) | (go_at_call 77; go_loud (rw [← HLen] ; refine (places_any (Lx.nameTk old) TL ao cap w4 hTl htk4).mono ?_; rintro e w5 ⟨v5, rfl, hown5, hB5⟩; rw [hF] at hown5; obtain ⟨ao5, cap5, rfl, hc5⟩ := own_ints hown5; have b0' := (hB5.cell (p := ⟨w1.heap.size + 1, 0, none⟩) hb1).trans b0; have b1' := (hB5.cell (p := ⟨w1.heap.size + 1, 1, none⟩) hb1).trans b1; have b2' := (hB5.cell (p := ⟨w1.heap.size + 1, 2, none⟩) hb1).trans b2; have htk5 := (htk4.below hB5).mono hB5.size)))
            go_ret2
            exact ⟨rfl, ((hB1.trans (hB4.mono hB1.size)).trans (hB5.mono (Nat.le_trans hB1.size hB4.size))).trans (hB6.mono (Nat.le_trans (Nat.le_trans hB1.size hB4.size) hB5.size))⟩
          · rw [if_neg hbig]
            obtain ⟨R, hR⟩ : ∃ R, Lx.renOut s name old.size 0 F = R := ⟨_, rfl⟩
            rw [hR]
            have HR := Lib.hid hR
            clear hR
            go_enter Tryd.func46, Tryd.ntmps46
            go_wp2_with (first | (go_at_call 19; refine HT.out.mono ?_; rintro e w1 ⟨v, rfl, hown, hB1⟩; obtain ⟨ao, cap, rfl, htk⟩ := own_tks hown; rw [← HTL.out] at htk) | (go_at_call 76; go_loud (refine (right2_any old name w1 (hG.below hB1) ho' hn' _ rfl).mono ?_; rw [HRG.out]; rintro e w4 ⟨rfl, hB4, ⟨hb0, hb1⟩, ⟨a0, a1, a2⟩, ⟨b0, b1, b2⟩⟩; have htk4 := (htk.below hB4).mono hB4.size)) | (go_at_call 77; rw [← HLen]; refine (places_any (Lx.nameTk name) TL ao cap w5 hTl htk5).mono ?_; rintro e w6 ⟨v6, rfl, hown6, hB6⟩; rw [hF2] at hown6; obtain ⟨ao6, cap6, rfl, hc6⟩ := own_ints hown6) | (go_at_call 77; go_loud (rw [← HLen] ; refine (places_any (Lx.nameTk old) TL ao cap w4 hTl htk4).mono ?_; rintro e w5 ⟨v5, rfl, hown5, hB5⟩; rw [hF] at hown5; obtain ⟨ao5, cap5, rfl, hc5⟩ := own_ints hown5; have b0' := (hB5.cell (p := ⟨w1.heap.size + 1, 0, none⟩) hb1).trans b0; have b1' := (hB5.cell (p := ⟨w1.heap.size + 1, 1, none⟩) hb1).trans b1; have b2' := (hB5.cell (p := ⟨w1.heap.size + 1, 2, none⟩) hb1).trans b2; have htk5 := (htk4.below hB5).mono hB5.size)))
            have hB16 : Below w.heap.size w w6 := ((hB1.trans (hB4.mono hB1.size)).trans (hB5.mono (Nat.le_trans hB1.size hB4.size))).trans (hB6.mono (Nat.le_trans (Nat.le_trans hB1.size hB4.size) hB5.size))
            have HC := Lib.hid (fun j p (h : F[j]? = some p) => (by obtain ⟨g, h1, h2, h3⟩ := hc5 j p h; exact ⟨g, h1, Nat.lt_of_lt_of_le h2 hB6.size, (hB6.cell (p := ⟨g, j, none⟩) h2).trans h3⟩ : ∃ g, ao5 = some ⟨g, 0, none⟩ ∧ g < w6.heap.size ∧ w6.cell? ⟨g, j, none⟩ = some (.int .i64 p)))
            have hBld : Lib.IsBuilder 80 5 w6.heap.size w6.heap.size [] (w6.alloc (.cells #[.pointer none, .slice none 0 0] 80)) := .inl ⟨Nat.le_refl _, .slice none 0 0, heap_alloc_new _ _, World.ownsRow_nil _ _ _ _, by simp [Value.ownBlock]⟩
            have hBn : Below w6.heap.size w6 (w6.alloc (.cells #[.pointer none, .slice none 0 0] 80)) := (Below.refl _ _).alloc (Nat.le_refl _) _
            have hsn : w6.heap.size ≤ (w6.alloc (.cells #[.pointer none, .slice none 0 0] 80)).heap.size := by simp
            obtain ⟨W0, hW0⟩ : ∃ W0, w6.alloc (.cells #[.pointer none, .slice none 0 0] 80) = W0 := ⟨_, rfl⟩
            rw [hW0] at hBld hBn hsn
            rw [hW0]
            have HB16 := Lib.hid hB16
            have hS6 := hB16.size
            clear hB1 hown hW0 hB16 hB4 hB5 hB6 hown5 hown6 hc5 hc6 a0 a1 a2 b0 b1 b2 b0' b1' b2' htk htk4 htk5 hm1 hm2 hbig hF hF2 HTL HT HRG
            go_loopw [15, 61] (fun d i wr => ∃ (k : Nat) (q : Int) (bs : List Value), k ≤ F.length ∧ i = .int .i64 k ∧ d = .int .i64 q ∧ 0 ≤ q ∧ q ≤ s.size ∧ Hid (Lx.apart s.size old.size q (F.drop k)) ∧ Hid (Lib.byteCells R = bs ++ Lib.byteCells (Lx.renOut s name old.size q (F.drop k))) ∧ bs.length ≤ k * 68719486736 ∧ Hid (Lib.IsBuilder 80 5 w6.heap.size w6.heap.size bs wr) ∧ Below w6.heap.size W0 wr) (fun _ i _ => F.length - (intOf i).toNat)
            case atStart => exact ⟨0, 0, [], Nat.zero_le _, rfl, rfl, by omega, by omega, HAP.out, by rw [Hid, ← HR.out]; rfl, by simp, hBld, Below.refl _ _⟩
            case round =>
              obtain ⟨k, q, bs, hk, rfl, rfl, hq0, hq1, hap, hbs, hbl, hbd, hBr⟩ := hrel
              have hszr := hBr.size
              by_cases hlt : k < F.length
              · obtain ⟨x, hx⟩ : ∃ x, F[k]? = some x := ⟨_, List.getElem?_eq_getElem hlt⟩
                obtain ⟨g, rfl, hg, hcg⟩ := HC.out k x hx
                have hd := Lx.drop_of_get hx
                have hap' := hap.out
                rw [hd] at hap'
                obtain ⟨ha1, ha2, ha3⟩ := hap'
                have HAP2 := Lib.hid ha3
                have e0 : wr.cell? ⟨g, k, none⟩ = some (.int .i64 x) := ((hBn.trans hBr).cell (p := ⟨g, _, none⟩) hg).trans hcg
                have hbs' := hbs.out
                rw [hd] at hbs'
                have HBS := Lib.hid hbs'
                have hbn := hbd.out
                have hszA : w6.heap.size ≤ wr.heap.size := by omega
                have hl1 : bs.length + (s.extract q.toNat x.toNat).size ≤ 140737488355328 := by rw [ByteArray.size_extract]; omega
                have hl2 : (bs ++ Lib.strCells (s.extract q.toNat x.toNat)).length + name.size ≤ 140737488355328 := by rw [List.length_append, Lib.strCells_length, ByteArray.size_extract]; omega
                clear hap hbs hbs' hd hx hcg ha3 hbd
                go_wp2_with (go_at_call 59; first
                  | (refine (writeString_any w6.heap.size w6.heap.size _ _ _ (.inr h3) hl2 (Nat.le_trans hszA hB3.size)).mono ?_; rintro e w8 ⟨rfl, h8, hB8, hO8⟩)
                  | (refine (writeString_any w6.heap.size w6.heap.size _ _ _ hbn hl1 hszA).mono ?_; rintro e w7 ⟨rfl, h3, hB3, hO3⟩))
                go_roundw
                case rel =>
                  refine ⟨k + 1, x + old.size, bs ++ Lib.strCells (s.extract q.toNat x.toNat) ++ Lib.strCells name, by omega, by go_num, rfl, by omega, by omega, HAP2.out, ?_, ?_, .inr h8, (hBr.trans hB3).trans hB8⟩
                  · rw [Hid, HBS.out, Lx.renOut, byteCells_append, byteCells_append, List.append_assoc, List.append_assoc]; rfl
                  · rw [List.length_append, List.length_append, Lib.strCells_length, Lib.strCells_length, ByteArray.size_extract]; omega
                case measure => simp [intOf]; omega
              · obtain rfl : k = F.length := by omega
                have hbs' := hbs.out
                rw [List.drop_length, Lx.renOut] at hbs'
                have HBS := Lib.hid hbs'
                have hbn := hbd.out
                have hszA : w6.heap.size ≤ wr.heap.size := by omega
                have hl1 : bs.length + (s.extract q.toNat s.size).size ≤ 140737488355328 := by rw [ByteArray.size_extract]; omega
                clear hbs' hbs hap hbd
                go_wp2_with (first
                  | (go_at_call 59; refine (writeString_any w6.heap.size w6.heap.size _ _ _ hbn hl1 hszA).mono ?_; rintro e w7 ⟨rfl, h3, hB3, hO3⟩; have h3' : Lib.IsBuilder 80 5 w6.heap.size w6.heap.size (Lib.byteCells R) w7 := .inr (HBS.out ▸ h3))
                  | (go_at_call 61; refine (Tryd.Builder_String_any w6.heap.size w6.heap.size R _ h3' (Nat.le_trans hszA hB3.size)).mono ?_; rintro e w8 ⟨rfl, hB8⟩))
                go_ret2
                exact ⟨rfl, HB16.out.trans ((((hBn.trans hBr).trans hB3).trans hB8).mono hS6)⟩
end Go.Proofs.YtchkngabppmbkaaDoor
