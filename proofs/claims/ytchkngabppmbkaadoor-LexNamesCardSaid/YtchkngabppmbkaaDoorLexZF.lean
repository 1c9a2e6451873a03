/-
  WALKS: the reference's tokens, further.
-/
import Derived.Test.YtchkngabppmbkaaDoorLexZE
namespace Go.Proofs.YtchkngabppmbkaaDoor
open Go.RowKit

section
variable (s : ByteArray) (k : Nat) (w : World)
set_option maxRecDepth 100000 in
set_option maxHeartbeats 2000000 in
theorem refToken_digit (hs : s.size ≤ 281474976710656) (hk : k < s.size) (hc : Lx.cls s[k] = 4) :
    Calls Tryd.prog 85 #[.string s, .int .i64 (k : Int)] w (TokRet (Lx.piece s k) k w) := by
  have hal : Lx.isAlnum s[k] = true := by rw [Lx.alnum_byte, hc]; rfl
  obtain ⟨hw0, hw1⟩ := Lx.wordAt_size hk hal
  have h0 : (Lx.wordAt s k)[0]'hw0 = s[k] := word_first hk hw0
  have HR := Lib.hid (fun W => refRun_any s k W (by omega) (by omega))
  have HS := Lib.hid (fun W => isSmall_any ((Lx.wordAt s k)[0]'hw0) W)
  have hc0 : (Lx.cls ((Lx.wordAt s k)[0]'hw0) == 2) = false := by rw [h0, hc]; rfl
  rw [hc0] at HS
  have HD := Lib.hid (fun W => isDigit_any ((Lx.wordAt s k)[0]'hw0) W)
  have hc1 : (Lx.cls ((Lx.wordAt s k)[0]'hw0) == 4) = true := by rw [h0, hc]; rfl
  rw [hc1] at HD
  have HN := Lib.hid (fun W => refNumberError_any (Lx.wordAt s k) W (by omega))
  have hpc : Lx.piece s k = (2, Lx.wordAt s k, Lx.numErr (Lx.wordAt s k)) := by
    unfold Lx.piece
    rw [Lx.byteAt_eq s k hk, hc]; rfl
  rw [hpc]
  have hne := not_empty hw0
  clear h0 hal hpc hc hc0 hc1
  generalize Lx.numErr (Lx.wordAt s k) = E at *
  generalize Lx.wordAt s k = T at *
  by_cases hE : E = 0
  · subst hE
    go_enter Tryd.func85, Tryd.ntmps85
    go_wp2_with (first
      | (go_at_call 98; refine (HR.out _).mono ?_; rintro e w' ⟨rfl, rfl⟩)
      | (go_at_call 99; refine (HS.out _).mono ?_; rintro e w' ⟨rfl, rfl⟩)
      | (go_at_call 102; refine (HD.out _).mono ?_; rintro e w' ⟨rfl, rfl⟩)
      | (go_at_call 103; refine (HN.out _).mono ?_; rintro e w' ⟨rfl, rfl⟩))
    refine bodyPost_ret (v := .tuple #[tokV 2 T k, .int .i64 0]) (by simp [tokV, results, Tryd.results85, go_sem]) rfl ⟨rfl, ?_⟩
    repeat (first | assumption | exact Below.refl _ _ | refine Below.drew ?_ | refine Below.setCell ?_ (by first | omega | (simp; omega) | simp) _ | refine below_drewN ?_ _ | refine Below.alloc ?_ (by first | omega | (simp; omega) | simp) _)
  · have hE' : ((E : Int) != 0) = true := by rw [bne_iff_ne]; omega
    have hV : refV (2, T, E) k = tokV 0 ⟨#[]⟩ 0 := by unfold refV; rw [if_neg hE]
    have HV := Lib.hid hV
    clear hE hV
    go_enter Tryd.func85, Tryd.ntmps85
    go_wp2_with (first
      | (go_at_call 98; refine (HR.out _).mono ?_; rintro e w' ⟨rfl, rfl⟩)
      | (go_at_call 99; refine (HS.out _).mono ?_; rintro e w' ⟨rfl, rfl⟩)
      | (go_at_call 102; refine (HD.out _).mono ?_; rintro e w' ⟨rfl, rfl⟩)
      | (go_at_call 103; refine (HN.out _).mono ?_; rintro e w' ⟨rfl, rfl⟩))
    refine bodyPost_ret (v := .tuple #[tokV 0 ⟨#[]⟩ 0, .int .i64 E]) (by simp [tokV, results, Tryd.results85, go_sem]) rfl ⟨by rw [HV.out], ?_⟩
    repeat (first | assumption | exact Below.refl _ _ | refine Below.drew ?_ | refine Below.setCell ?_ (by first | omega | (simp; omega) | simp) _ | refine below_drewN ?_ _ | refine Below.alloc ?_ (by first | omega | (simp; omega) | simp) _)

/-- What the signs' loop finds. -/
def signRet (o : Option ByteArray) : Nat × ByteArray × Nat := match o with
  | some t => (4, t, 0)
  | none => (0, ⟨#[]⟩, 4)
theorem find_step {p : ByteArray → Bool} {l : List ByteArray} {j : Nat} {x : ByteArray} (hx : l[j]? = some x) : (l.drop j).find? p = if p x then some x else (l.drop (j + 1)).find? p := by
  obtain ⟨hj, hxe⟩ := List.getElem?_eq_some_iff.1 hx
  rw [List.drop_eq_getElem_cons hj, hxe, List.find?_cons]
  cases p x <;> rfl

set_option maxRecDepth 100000 in
set_option maxHeartbeats 4000000 in
theorem refToken_other (hs : s.size ≤ 281474976710656) (hk : k < s.size) (h2 : Lx.cls s[k] ≠ 2) (h4 : Lx.cls s[k] ≠ 4) :
    Calls Tryd.prog 85 #[.string s, .int .i64 (k : Int)] w (TokRet (signRet (Lx.signTexts.find? (Lx.begins s k))) k w) := by
  obtain ⟨R, hR⟩ : ∃ R, Lx.signTexts.find? (Lx.begins s k) = R := ⟨_, rfl⟩
  rw [hR]
  have HRF := Lib.hid hR; clear hR
  have HR := Lib.hid (fun W => refRun_any s k W (by omega) (by omega))
  have hT : ((Lx.wordAt s k).size = 0) ∨ (∃ h : 0 < (Lx.wordAt s k).size, (Lx.cls ((Lx.wordAt s k)[0]'h) == 2) = false ∧ (Lx.cls ((Lx.wordAt s k)[0]'h) == 4) = false) := by
    by_cases h : (Lx.wordAt s k).size = 0
    · exact .inl h
    · have hp : 0 < (Lx.wordAt s k).size := by omega
      refine .inr ⟨hp, ?_, ?_⟩
      · rw [word_first hk hp, beq_eq_false_iff_ne]; exact h2
      · rw [word_first hk hp, beq_eq_false_iff_ne]; exact h4
  have HB := Lib.hid (fun t W ht => beginsAt_any s t k W hs ht (by omega))
  have HG := Lib.hid refSigns_any
  clear h2 h4
  generalize Lx.wordAt s k = T at *
  rcases hT with hT | ⟨hp, hq1, hq2⟩
  rotate_left
  have HS := Lib.hid (fun W => isSmall_any (T[0]'hp) W)
  rw [hq1] at HS
  have HD := Lib.hid (fun W => isDigit_any (T[0]'hp) W)
  rw [hq2] at HD
  have hne := not_empty hp
  clear hq1 hq2
  go_enter Tryd.func85, Tryd.ntmps85
  go_wp2_with (first
    | (go_at_call 98; refine (HR.out _).mono ?_; rintro e w' ⟨rfl, rfl⟩)
    | (go_at_call 99; refine (HS.out _).mono ?_; rintro e w' ⟨rfl, rfl⟩)
    | (go_at_call 102; refine (HD.out _).mono ?_; rintro e w' ⟨rfl, rfl⟩)
    | (go_at_call 104; refine (HG.out _).mono ?_; rintro e w' ⟨rfl, rfl⟩))
  clear HS HD hne
  rotate_left
  obtain rfl := is_empty hT
  clear hT
  go_enter Tryd.func85, Tryd.ntmps85
  go_wp2_with (first
    | (go_at_call 98; refine (HR.out _).mono ?_; rintro e w' ⟨rfl, rfl⟩)
    | (go_at_call 104; refine (HG.out _).mono ?_; rintro e w' ⟨rfl, rfl⟩))
  all_goals
    have HC := Lib.hid (strs_at w (.cells #[.int .u8 0, .string ⟨#[]⟩, .int .i64 0] 63) Lx.signTexts 9)
    go_loop [9] (fun i => ∃ j : Nat, j ≤ 16 ∧ i = .int .i64 j ∧ Hid ((Lx.signTexts.drop j).find? (Lx.begins s k) = R)) (fun i => 16 - (intOf i).toNat)
    case atStart => exact ⟨0, by omega, rfl, HRF.out⟩
    case round =>
      obtain ⟨j, hj, rfl, hn⟩ := hrel
      by_cases hlt : j < 16
      · obtain ⟨x, hx⟩ : ∃ x, Lx.signTexts[j]? = some x := ⟨_, List.getElem?_eq_getElem (by rw [signTexts_len]; exact hlt)⟩
        have hcx := HC.out j x hx
        have hsx := signTexts_size x (List.mem_of_getElem? hx)
        have HBx := Lib.hid (fun W => HB.out x W (by omega))
        have hn' := hn.out
        rw [find_step hx] at hn'
        clear hx hn
        cases hb : Lx.begins s k x
        · rw [hb] at HBx hn'
          have HN := Lib.hid hn'
          clear hn' hb
          go_wp2_with (go_at_call 105; refine (HBx.out _).mono ?_; rintro e w' ⟨rfl, rfl⟩)
          go_round
          case rel => exact ⟨j + 1, by omega, by go_num, HN.out⟩
          case measure => simp [intOf]; omega
        · rw [hb] at HBx hn'
          have HN := Lib.hid hn'
          clear hn' hb
          go_wp2_with (go_at_call 105; refine (HBx.out _).mono ?_; rintro e w' ⟨rfl, rfl⟩)
          refine bodyPost_ret (v := .tuple #[tokV 4 x k, .int .i64 0]) (by simp [tokV, results, Tryd.results85, go_sem]) rfl ⟨by rw [← HN.out]; rfl, ?_⟩
          repeat (first | assumption | exact Below.refl _ _ | refine Below.drew ?_ | refine Below.setCell ?_ (by first | omega | (simp; omega) | simp) _ | refine below_drewN ?_ _ | refine Below.alloc ?_ (by first | omega | (simp; omega) | simp) _)
      · obtain rfl : j = 16 := by omega
        have hn' : none = R := hn.out
        have HN := Lib.hid hn'
        clear hn' hn
        go_wp2
        refine bodyPost_ret (v := .tuple #[tokV 0 ⟨#[]⟩ 0, .int .i64 4]) (by simp [tokV, results, Tryd.results85, go_sem]) rfl ⟨by rw [← HN.out]; rfl, ?_⟩
        repeat (first | assumption | exact Below.refl _ _ | refine Below.drew ?_ | refine Below.setCell ?_ (by first | omega | (simp; omega) | simp) _ | refine below_drewN ?_ _ | refine Below.alloc ?_ (by first | omega | (simp; omega) | simp) _)

/-- The reference's Token, at any byte of any text. -/
theorem refToken_any (hs : s.size ≤ 281474976710656) (hk : k < s.size) :
    Calls Tryd.prog 85 #[.string s, .int .i64 (k : Int)] w (TokRet (Lx.refPiece s k) k w) := by
  unfold Lx.refPiece
  rw [Lx.byteAt_eq s k hk]
  have key : ∀ p q : Nat × ByteArray × Nat, refV p k = refV q k → p.2.2 = q.2.2 → TokRet p k w = TokRet q k w := fun p q h1 h2 => by unfold TokRet; rw [h1, h2]
  have hz : ∀ p : Nat × ByteArray × Nat, TokRet p k w = TokRet (if p.2.2 = 0 then p else (0, ⟨#[]⟩, p.2.2)) k w := fun p => by
    split
    · rfl
    · rename_i h
      refine key _ _ ?_ rfl
      unfold refV
      rw [if_neg h, if_neg h]
  by_cases h6 : Lx.cls s[k] = 6
  · rw [if_pos h6]
    have := refToken_other s k w hs hk (by omega) (by omega)
    rw [Lx.find_sign s k hk, if_neg (by omega)] at this
    exact this
  · rw [if_neg h6]
    by_cases h2 : Lx.cls s[k] = 2
    · rw [← hz]; exact refToken_small s k w hs hk h2
    · by_cases h4 : Lx.cls s[k] = 4
      · rw [← hz]; exact refToken_digit s k w hs hk h4
      · have := refToken_other s k w hs hk h2 h4
        rw [Lx.find_sign s k hk] at this
        rw [← hz]
        unfold Lx.piece
        rw [Lx.byteAt_eq s k hk, if_neg h6, if_neg h2, if_neg h4]
        by_cases h5 : Lx.cls s[k] = 5
        · rw [if_pos h5] at this ⊢
          exact this
        · rw [if_neg h5] at this ⊢
          rw [hz]
          exact this
end
end Go.Proofs.YtchkngabppmbkaaDoor
