/-
  WALKS: the reference's bytes, lists of texts, numbers.
-/
import Derived.Test.YtchkngabppmbkaaDoorLexB
import Derived.Test.YtchkngabppmbkaaDoorLexT
import Derived.Test.YtchkngabppmbkaaDoorSpecL
import Derived.WalkLawsBesides
namespace Go.Proofs.YtchkngabppmbkaaDoor
open Go.RowKit

set_option maxRecDepth 100000 in
set_option maxHeartbeats 1000000 in
theorem isSmall_any (c : UInt8) (w : World) : Calls Tryd.prog 99 #[.int .u8 (c.toNat : Int)] w fun e w' => e = .returned (.bool (Lx.cls c == 2)) ∧ w = w' := by
  rw [Lx.small_byte]
  have hlt := c.toNat_lt
  go_enter Tryd.func99, Tryd.ntmps99
  go_wp2
  all_goals go_ret
  all_goals exact ⟨ret_bool (Bool.eq_iff_iff.2 (by simp; omega)), rfl⟩

set_option maxRecDepth 100000 in
set_option maxHeartbeats 1000000 in
theorem isDigit_any (c : UInt8) (w : World) : Calls Tryd.prog 102 #[.int .u8 (c.toNat : Int)] w fun e w' => e = .returned (.bool (Lx.cls c == 4)) ∧ w = w' := by
  rw [Lx.digit_byte]
  have hlt := c.toNat_lt
  go_enter Tryd.func102, Tryd.ntmps102
  go_wp2
  all_goals go_ret
  all_goals exact ⟨ret_bool (Bool.eq_iff_iff.2 (by simp; omega)), rfl⟩

set_option maxRecDepth 100000 in
set_option maxHeartbeats 1000000 in
theorem isLetter_any (c : UInt8) (w : World) : Calls Tryd.prog 112 #[.int .u8 (c.toNat : Int)] w fun e w' => e = .returned (.bool (Lx.cls c == 2 || Lx.cls c == 3)) ∧ w = w' := by
  have HS := Lib.hid (isSmall_any c w)
  rw [Lx.capital_byte]
  have hlt := c.toNat_lt
  cases hs : (Lx.cls c == 2)
  all_goals
    rw [hs] at HS
    clear hs
    go_enter Tryd.func112, Tryd.ntmps112
    go_wp2_with (go_at_call 99; refine HS.out.mono ?_; rintro e w' ⟨rfl, rfl⟩)
    all_goals go_ret
    all_goals exact ⟨ret_bool (Bool.eq_iff_iff.2 (by simp; try omega)), rfl⟩

set_option maxRecDepth 100000 in
set_option maxHeartbeats 2000000 in
theorem refRun_any (s : ByteArray) (at0 : Nat) (w : World) (hs : s.size ≤ 9223372036854775807) (ha : at0 ≤ s.size) :
    Calls Tryd.prog 98 #[.string s, .int .i64 (at0 : Int)] w fun e w' => e = .returned (.string (Lx.wordAt s at0)) ∧ w = w' := by
  have HL := Lib.hid isLetter_any
  have HD := Lib.hid isDigit_any
  unfold Lx.wordAt
  obtain ⟨E, hE⟩ : ∃ E, Lx.runEnd Lx.isAlnum s at0 = E := ⟨_, rfl⟩
  rw [hE]
  have HE := Lib.hid hE; clear hE
  go_enter Tryd.func98, Tryd.ntmps98
  go_wp2
  go_loop [5] (fun i => ∃ k : Nat, at0 ≤ k ∧ k ≤ s.size ∧ i = .int .i64 k ∧ Hid (Lx.runEnd Lx.isAlnum s k = E)) (fun i => s.size - (intOf i).toNat)
  case atStart => exact ⟨at0, Nat.le_refl _, ha, rfl, HE.out⟩
  case round =>
    obtain ⟨k, hk0, hk, rfl, hn⟩ := hrel
    by_cases hlt : k < s.size
    · have HS := Lib.hid (@Lx.runEnd_step Lx.isAlnum s k hlt)
      have HT := Lib.hid (@Lx.runEnd_stop Lx.isAlnum s k hlt)
      have HLk := Lib.hid (HL.out s[k] w)
      have HDk := Lib.hid (HD.out s[k] w)
      have hal := Lx.alnum_byte s[k]
      cases h1 : (Lx.cls s[k] == 2 || Lx.cls s[k] == 3)
      · rw [h1] at HLk hal
        cases h2 : (Lx.cls s[k] == 4)
        · rw [h2] at HDk hal
          obtain rfl : k = E := (HT.out hal).symm.trans hn.out
          clear h1 h2 hal
          go_wp2_with (first
            | (go_at_call 112; refine HLk.out.mono ?_; rintro e w' ⟨rfl, rfl⟩)
            | (go_at_call 102; refine HDk.out.mono ?_; rintro e w' ⟨rfl, rfl⟩))
          go_ret
          exact ⟨rfl, rfl⟩
        · rw [h2] at HDk hal
          have HX := Lib.hid ((HS.out hal).symm.trans hn.out)
          clear h1 h2 hal
          go_wp2_with (first
            | (go_at_call 112; refine HLk.out.mono ?_; rintro e w' ⟨rfl, rfl⟩)
            | (go_at_call 102; refine HDk.out.mono ?_; rintro e w' ⟨rfl, rfl⟩))
          go_round
          case rel => exact ⟨k + 1, by omega, by omega, by go_num, HX.out⟩
          case measure => simp [intOf]; omega
      · rw [h1] at HLk hal
        have HX := Lib.hid ((HS.out hal).symm.trans hn.out)
        clear h1 hal
        go_wp2_with (go_at_call 112; refine HLk.out.mono ?_; rintro e w' ⟨rfl, rfl⟩)
        go_round
        case rel => exact ⟨k + 1, by omega, by omega, by go_num, HX.out⟩
        case measure => simp [intOf]; omega
    · obtain rfl : k = s.size := by omega
      obtain rfl : s.size = E := (Lx.runEnd_end (Nat.le_refl _)).symm.trans hn.out
      go_wp2
      go_ret
      exact ⟨rfl, rfl⟩

/-- A row of texts. -/
def Strs (w : World) (b : Nat) (l : List ByteArray) : Prop := ∀ (i : Nat) (x : ByteArray), l[i]? = some x → w.cell? ⟨b, i, none⟩ = some (.string x)
theorem Strs.new (w : World) (l : List ByteArray) (t : TypeId) : Strs (w.alloc (.cells ⟨l.map Value.string⟩ t)) w.heap.size l := fun i x hx => cells_new_at w _ t i _ (by rw [List.getElem?_map, hx]; rfl)

set_option maxRecDepth 100000 in
set_option maxHeartbeats 1000000 in
theorem has_any (l : List ByteArray) (s : ByteArray) (b c : Nat) (w : World) (hl : l.length ≤ 1000) (hS : Strs w b l) :
    Calls Tryd.prog 100 #[.slice (some ⟨b, 0, none⟩) l.length c, .string s] w fun e w' => e = .returned (.bool (l.contains s)) ∧ w = w' := by
  obtain ⟨R, hR⟩ : ∃ R, l.contains s = R := ⟨_, rfl⟩
  rw [hR]
  have HR := Lib.hid hR; have HS := Lib.hid hS
  have HQ := Lib.hid str_eq
  clear hR hS
  go_enter Tryd.func100, Tryd.ntmps100
  go_wp2
  go_loop [5] (fun i => ∃ k : Nat, k ≤ l.length ∧ i = .int .i64 k ∧ Hid ((l.drop k).contains s = R)) (fun i => l.length - (intOf i).toNat)
  case atStart => exact ⟨0, Nat.zero_le _, rfl, HR.out⟩
  case round =>
    obtain ⟨k, hk, rfl, hn⟩ := hrel
    by_cases hlt : k < l.length
    · obtain ⟨x, hx⟩ : ∃ x, l[k]? = some x := ⟨_, List.getElem?_eq_getElem hlt⟩
      have hc := HS.out k x hx
      have hd : l.drop k = x :: l.drop (k + 1) := by rw [List.drop_eq_getElem_cons hlt]; rw [List.getElem?_eq_getElem hlt] at hx; injection hx with hx; rw [hx]
      have hn' := hn.out
      rw [hd, List.contains_cons] at hn'
      have hq := HQ.out x s
      clear hx hd hn
      by_cases e : x = s
      · have : (s == x) = true := by rw [Lx.beq_bytes]; exact decide_eq_true e.symm
        rw [this, Bool.true_or] at hn'
        rw [decide_eq_true e] at hq
        have HN := Lib.hid hn'
        clear hn' this e
        go_wp2
        go_ret
        exact ⟨by rw [← HN.out]; rfl, rfl⟩
      · have : (s == x) = false := by rw [Lx.beq_bytes]; exact decide_eq_false fun h => e h.symm
        rw [this, Bool.false_or] at hn'
        rw [decide_eq_false e] at hq
        have HN := Lib.hid hn'
        clear hn' this e
        go_wp2
        go_round
        case rel => exact ⟨k + 1, by omega, by go_num, HN.out⟩
        case measure => simp [intOf]; omega
    · obtain rfl : k = l.length := by omega
      have hn' := hn.out
      rw [List.drop_length] at hn'
      have HN := Lib.hid hn'
      clear hn hn'
      go_wp2
      go_ret
      exact ⟨by rw [← HN.out]; rfl, rfl⟩

set_option maxRecDepth 100000 in
set_option maxHeartbeats 1000000 in
theorem refKeywords_any (w : World) : Calls Tryd.prog 101 #[] w fun e w' => e = .returned (.slice (some ⟨w.heap.size, 0, none⟩) 30 30) ∧ w' = w.alloc (.cells ⟨Lx.words.map Value.string⟩ 9) := by
  go_enter Tryd.func101, Tryd.ntmps101
  go_wp2
  go_ret
  exact ⟨rfl, rfl⟩

set_option maxRecDepth 100000 in
set_option maxHeartbeats 1000000 in
theorem refSigns_any (w : World) : Calls Tryd.prog 104 #[] w fun e w' => e = .returned (.slice (some ⟨w.heap.size, 0, none⟩) 16 16) ∧ w' = w.alloc (.cells ⟨Lx.signTexts.map Value.string⟩ 9) := by
  go_enter Tryd.func104, Tryd.ntmps104
  go_wp2
  go_ret
  exact ⟨rfl, rfl⟩

set_option maxRecDepth 100000 in
set_option maxHeartbeats 1000000 in
theorem beginsAt_any (s t : ByteArray) (k : Nat) (w : World) (hs : s.size ≤ 281474976710656) (ht : t.size ≤ 281474976710656) (hk : k ≤ s.size) :
    Calls Tryd.prog 105 #[.string s, .int .i64 (k : Int), .string t] w fun e w' => e = .returned (.bool (Lx.begins s k t)) ∧ w = w' := by
  by_cases h : k + t.size ≤ s.size
  · have hd : decide ((s.size : Int) - k ≥ t.size) = true := decide_eq_true (by omega)
    have hq := str_eq (s.extract k (k + t.size)) t
    have hb : Lx.begins s k t = decide (s.extract k (k + t.size) = t) := by unfold Lx.begins; rw [decide_eq_true h, Bool.true_and]
    rw [hb]
    clear hb
    go_enter Tryd.func105, Tryd.ntmps105
    go_wp2
    go_ret
    exact ⟨rfl, rfl⟩
  · have hd : decide ((s.size : Int) - k ≥ t.size) = false := decide_eq_false (by omega)
    have hb : Lx.begins s k t = false := by unfold Lx.begins; rw [decide_eq_false h, Bool.false_and]
    rw [hb]
    clear hb
    go_enter Tryd.func105, Tryd.ntmps105
    go_wp2
    go_ret
    exact ⟨rfl, rfl⟩
end Go.Proofs.YtchkngabppmbkaaDoor
