/-
  WALKS: the reference's numbers and tokens.
-/
import Derived.Test.YtchkngabppmbkaaDoorLexZD
import Derived.Test.YtchkngabppmbkaaDoorLexF
namespace Go.Proofs.YtchkngabppmbkaaDoor
open Go.RowKit

theorem take_bytes (s : ByteArray) (k : Nat) (h : k < s.size) : s.data.toList.take (k + 1) = s.data.toList.take k ++ [s[k]] := by
  rw [List.take_succ_eq_append_getElem (by simpa using h)]; rfl

set_option maxRecDepth 100000 in
set_option maxHeartbeats 4000000 in
theorem refNumberError_any (t : ByteArray) (w : World) (hm : t.size ≤ 281474976710656) :
    Calls Tryd.prog 103 #[.string t] w fun e w' => e = .returned (.int .i64 (Lx.numErr t : Int)) ∧ w = w' := by
  have HD := Lib.hid isDigit_any
  obtain ⟨R, hR⟩ : ∃ R, Lx.numErr t = R := ⟨_, rfl⟩
  rw [hR]
  unfold Lx.numErr at hR
  obtain ⟨E, hE⟩ : ∃ E, Lx.runEnd Lx.isDigit t 0 = E := ⟨_, rfl⟩
  rw [hE] at hR
  have HR := Lib.hid hR; have HE := Lib.hid hE
  clear hR hE
  go_enter Tryd.func103, Tryd.ntmps103
  go_wp2
  go_loop [3, 4] (fun n i => ∃ (k m : Nat), k ≤ t.size ∧ i = .int .i64 k ∧ n = .int .i64 m ∧ m ≤ 1000001 ∧ Hid (m = min (Lx.val 0 (t.data.toList.take k)) 1000001) ∧ Hid (Lx.runEnd Lx.isDigit t k = E) ∧ Hid (1 < k → t.data.toList.head? ≠ some 48)) (fun _ i => t.size - (intOf i).toNat)
  case atStart => exact ⟨0, 0, Nat.zero_le _, rfl, rfl, by omega, rfl, HE.out, fun h => by omega⟩
  case round =>
    obtain ⟨k, m, hk, rfl, rfl, hm2, hv, hn, hz⟩ := hrel
    by_cases hlt : k < t.size
    · have HS := Lib.hid (@Lx.runEnd_step Lx.isDigit t k hlt)
      have HT := Lib.hid (@Lx.runEnd_stop Lx.isDigit t k hlt)
      have HDk := Lib.hid (HD.out t[k] w)
      have hdg := Lx.digit_eq t[k]
      have hdi := Lx.isDigit_iff t[k]
      have hpos : 0 < t.size := by omega
      cases h1 : (Lx.cls t[k] == 4)
      · rw [h1] at HDk hdg
        obtain rfl : k = E := (HT.out hdg).symm.trans hn.out
        have HV : Hid (R = 4) := by rw [Hid, ← HR.out, if_pos (.inl (by omega))]
        clear h1 hdg hdi
        go_wp2_with (go_at_call 102; refine HDk.out.mono ?_; rintro e w' ⟨rfl, rfl⟩)
        go_ret
        exact ⟨by rw [HV.out]; rfl, rfl⟩
      · rw [h1] at HDk hdg
        have HX := Lib.hid ((HS.out hdg).symm.trans hn.out)
        obtain ⟨hlo, hhi⟩ := hdi.1 hdg
        have hvs : Hid (Lx.val 0 (t.data.toList.take (k + 1)) = Lx.val 0 (t.data.toList.take k) * 10 + (t[k].toNat - 48)) := by rw [Hid, take_bytes t k hlt, Lx.val_snoc]
        have hhead := Lx.head_eq t hpos
        clear h1 hdg hdi
        by_cases h0 : k = 0
        · subst h0
          have hd0 : decide (((0 : Nat) : Int) > 0) = false := decide_eq_false (by omega)
          go_wp2_with (go_at_call 102; refine HDk.out.mono ?_; rintro e w' ⟨rfl, rfl⟩)
          go_round
          case rel => exact ⟨1, min (Lx.val 0 (t.data.toList.take 1)) 1000001, by omega, by go_num, by have h5 : Lx.val 0 (t.data.toList.take 1) = _ := hvs.out; have := hv.out; congr 1; omega, by omega, rfl, HX.out, fun h => by omega⟩
          case measure => simp [intOf]; omega
        · have hd0 : decide ((k : Int) > 0) = true := decide_eq_true (by omega)
          cases h48 : ((((t[0]'hpos).toNat : Nat) : Int) == 48)
          · have hz2 : Hid (1 < k + 1 → t.data.toList.head? ≠ some 48) := fun _ h => by
              have := hhead.1 h
              rw [beq_eq_false_iff_ne] at h48
              omega
            clear hhead
            go_wp2_with (go_at_call 102; refine HDk.out.mono ?_; rintro e w' ⟨rfl, rfl⟩)
            go_round
            case rel => exact ⟨k + 1, min (Lx.val 0 (t.data.toList.take (k + 1))) 1000001, by omega, by go_num, by have := hvs.out; have := hv.out; congr 1; omega, by omega, rfl, HX.out, hz2.out⟩
            case measure => simp [intOf]; omega
          · have HV : Hid (R = 4) := by
              rw [Hid, ← HR.out, if_pos]
              refine .inr ⟨by omega, hhead.2 ?_⟩
              rw [beq_iff_eq] at h48
              omega
            clear hhead
            go_wp2_with (go_at_call 102; refine HDk.out.mono ?_; rintro e w' ⟨rfl, rfl⟩)
            go_ret
            exact ⟨by rw [HV.out]; rfl, rfl⟩
    · obtain rfl : k = t.size := by omega
      have hEs : E = t.size := hn.out.symm.trans (Lx.runEnd_end (Nat.le_refl _))
      have hv' := hv.out
      rw [List.take_of_length_le (by simp)] at hv'
      have hR' := HR.out
      rw [if_neg (by rintro (h | ⟨h, h2⟩); exact h hEs; exact hz.out h h2)] at hR'
      by_cases hb : 1000000 < Lx.val 0 t.data.toList
      · rw [if_pos hb] at hR'
        have HV := Lib.hid hR'.symm
        have hd : decide ((m : Int) > 1000000) = true := decide_eq_true (by omega)
        clear hR' hv' hb hEs hv hn hz
        go_wp2
        go_ret
        exact ⟨by rw [HV.out]; rfl, rfl⟩
      · rw [if_neg hb] at hR'
        have HV := Lib.hid hR'.symm
        have hd : decide ((m : Int) > 1000000) = false := decide_eq_false (by omega)
        clear hR' hv' hb hEs hv hn hz
        go_wp2
        go_ret
        exact ⟨by rw [HV.out]; rfl, rfl⟩

/-- What the reference hands back of a place. -/
def refV (p : Nat × ByteArray × Nat) (k : Nat) : Value := if p.2.2 = 0 then tokV p.1 p.2.1 k else tokV 0 ⟨#[]⟩ 0
def TokRet (p : Nat × ByteArray × Nat) (k : Nat) (w : World) (e : Ending) (w' : World) : Prop := e = .returned (.tuple #[refV p k, .int .i64 (p.2.2 : Int)]) ∧ Below w.heap.size w w'
theorem words_len : Lx.words.length = 30 := rfl
theorem signTexts_len : Lx.signTexts.length = 16 := rfl
theorem signTexts_size : ∀ x ∈ Lx.signTexts, x.size ≤ 2 := by decide
theorem not_empty {T : ByteArray} (h : 0 < T.size) : T.toList.isEmpty = false := by
  rw [ByteArray.toList_eq]
  obtain ⟨⟨l⟩⟩ := T
  cases l with
  | nil => simp [ByteArray.size] at h
  | cons c l => rfl
theorem is_empty {T : ByteArray} (h : T.size = 0) : T = ⟨#[]⟩ := by
  obtain ⟨⟨l⟩⟩ := T
  cases l with
  | nil => rfl
  | cons c l => simp [ByteArray.size] at h

theorem word_first {s : ByteArray} {k : Nat} (hk : k < s.size) (hw0 : 0 < (Lx.wordAt s k).size) : (Lx.wordAt s k)[0]'hw0 = s[k] := by
  have hsz : (Lx.wordAt s k).size ≤ Lx.runEnd Lx.isAlnum s k - k := by unfold Lx.wordAt; rw [ByteArray.size_extract]; omega
  rw [← Lx.byteAt_eq _ 0 hw0, ← Lx.byteAt_eq s k hk]
  unfold Lx.byteAt Lx.wordAt
  rw [Lx.extract_list, List.getElem?_take_of_lt (by omega), List.getElem?_drop, Nat.add_zero]

section
variable (s : ByteArray) (k : Nat) (w : World)
theorem strs_at (w : World) (X : Obj) (l : List ByteArray) (t : TypeId) : Strs ((w.alloc X).alloc (.cells ⟨l.map Value.string⟩ t)) (w.heap.size + 1) l := by
  have := Strs.new (w.alloc X) l t
  rwa [World.size_alloc] at this

set_option maxRecDepth 100000 in
set_option maxHeartbeats 2000000 in
theorem refToken_small (hs : s.size ≤ 281474976710656) (hk : k < s.size) (hc : Lx.cls s[k] = 2) :
    Calls Tryd.prog 85 #[.string s, .int .i64 (k : Int)] w (TokRet (Lx.piece s k) k w) := by
  have hal : Lx.isAlnum s[k] = true := by rw [Lx.alnum_byte, hc]; rfl
  obtain ⟨hw0, hw1⟩ := Lx.wordAt_size hk hal
  have h0 : (Lx.wordAt s k)[0]'hw0 = s[k] := word_first hk hw0
  have HR := Lib.hid (fun W => refRun_any s k W (by omega) (by omega))
  have HS := Lib.hid (fun W => isSmall_any ((Lx.wordAt s k)[0]'hw0) W)
  have hc0 : (Lx.cls ((Lx.wordAt s k)[0]'hw0) == 2) = true := by rw [h0, hc]; rfl
  rw [hc0] at HS
  have HK := Lib.hid refKeywords_any
  have HH := Lib.hid (fun X => has_any Lx.words (Lx.wordAt s k) (w.heap.size + 1) 30 ((w.alloc X).alloc (.cells ⟨Lx.words.map Value.string⟩ 9)) (by decide) (strs_at w X _ _))
  rw [words_len] at HH
  have hpc : Lx.piece s k = if Lx.isWord (Lx.wordAt s k) then (3, Lx.wordAt s k, 0) else (1, Lx.wordAt s k, Lx.nameErr (Lx.wordAt s k)) := by
    unfold Lx.piece
    rw [Lx.byteAt_eq s k hk, hc]; rfl
  rw [hpc]
  have hne := not_empty hw0
  have hword : Lx.words.contains (Lx.wordAt s k) = Lx.isWord (Lx.wordAt s k) := rfl
  rw [hword] at HH
  clear h0 hal hpc hword hc hc0
  generalize Lx.wordAt s k = T at *
  cases hw : Lx.isWord T
  · rw [hw] at HH
    clear hw
    by_cases h12 : 12 < T.size
    · have hd : decide ((T.size : Int) > 12) = true := decide_eq_true (by omega)
      have hn : Lx.nameErr T = 4 := by unfold Lx.nameErr; rw [if_pos h12]
      rw [if_neg (by simp), hn]
      clear hn
      go_enter Tryd.func85, Tryd.ntmps85
      go_wp2_with (first
        | (go_at_call 98; refine (HR.out _).mono ?_; rintro e w' ⟨rfl, rfl⟩)
        | (go_at_call 99; refine (HS.out _).mono ?_; rintro e w' ⟨rfl, rfl⟩)
        | (go_at_call 101; refine (HK.out _).mono ?_; rintro e w' ⟨rfl, rfl⟩)
        | (go_at_call 100; go_loud (refine (HH.out _).mono ?_); rintro e w' ⟨rfl, rfl⟩))
      refine bodyPost_ret (v := .tuple #[tokV 0 ⟨#[]⟩ 0, .int .i64 4]) (by simp [tokV, results, Tryd.results85, go_sem]) rfl ⟨rfl, ?_⟩
      repeat (first | assumption | exact Below.refl _ _ | refine Below.drew ?_ | refine Below.setCell ?_ (by first | omega | (simp; omega) | simp) _ | refine below_drewN ?_ _ | refine Below.alloc ?_ (by first | omega | (simp; omega) | simp) _)
    · have hd : decide ((T.size : Int) > 12) = false := decide_eq_false (by omega)
      have hn : Lx.nameErr T = 0 := by unfold Lx.nameErr; rw [if_neg h12]
      rw [if_neg (by simp), hn]
      clear hn
      go_enter Tryd.func85, Tryd.ntmps85
      go_wp2_with (first
        | (go_at_call 98; refine (HR.out _).mono ?_; rintro e w' ⟨rfl, rfl⟩)
        | (go_at_call 99; refine (HS.out _).mono ?_; rintro e w' ⟨rfl, rfl⟩)
        | (go_at_call 101; refine (HK.out _).mono ?_; rintro e w' ⟨rfl, rfl⟩)
        | (go_at_call 100; refine (HH.out _).mono ?_; rintro e w' ⟨rfl, rfl⟩))
      refine bodyPost_ret (v := .tuple #[tokV 1 T k, .int .i64 0]) (by simp [tokV, results, Tryd.results85, go_sem]) rfl ⟨rfl, ?_⟩
      repeat (first | assumption | exact Below.refl _ _ | refine Below.drew ?_ | refine Below.setCell ?_ (by first | omega | (simp; omega) | simp) _ | refine below_drewN ?_ _ | refine Below.alloc ?_ (by first | omega | (simp; omega) | simp) _)
  · rw [hw] at HH
    clear hw
    rw [if_pos rfl]
    go_enter Tryd.func85, Tryd.ntmps85
    go_wp2_with (first
      | (go_at_call 98; refine (HR.out _).mono ?_; rintro e w' ⟨rfl, rfl⟩)
      | (go_at_call 99; refine (HS.out _).mono ?_; rintro e w' ⟨rfl, rfl⟩)
      | (go_at_call 101; refine (HK.out _).mono ?_; rintro e w' ⟨rfl, rfl⟩)
      | (go_at_call 100; refine (HH.out _).mono ?_; rintro e w' ⟨rfl, rfl⟩))
    refine bodyPost_ret (v := .tuple #[tokV 3 T k, .int .i64 0]) (by simp [tokV, results, Tryd.results85, go_sem]) rfl ⟨rfl, ?_⟩
    repeat (first | assumption | exact Below.refl _ _ | refine Below.drew ?_ | refine Below.setCell ?_ (by first | omega | (simp; omega) | simp) _ | refine below_drewN ?_ _ | refine Below.alloc ?_ (by first | omega | (simp; omega) | simp) _)
end
end Go.Proofs.YtchkngabppmbkaaDoor
