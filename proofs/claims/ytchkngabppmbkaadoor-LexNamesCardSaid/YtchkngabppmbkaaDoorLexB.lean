/-
  WALKS: runs of bytes; the errors of a text.
-/
import Derived.Test.YtchkngabppmbkaaDoorLexA
namespace Go.Proofs.YtchkngabppmbkaaDoor
open Go.RowKit

set_option maxRecDepth 100000 in
set_option maxHeartbeats 1000000 in
theorem run_any (s : ByteArray) (at0 : Nat) (zs : List Nat) (b off cap : Nat) (w : World) (hs : s.size ≤ 9223372036854775807) (ha : at0 ≤ s.size) (hz : ∀ z ∈ zs, z < 256) (hl : zs.length ≤ 3) (hc : U8s w b off zs) :
    Calls Tryd.prog 94 #[.string s, .int .i64 (at0 : Int), .slice (some ⟨b, off, none⟩) zs.length cap] w fun e w' =>
      e = .returned (.string (s.extract at0 (Lx.runEnd (fun c => zs.contains (Lx.cls c)) s at0))) ∧ w = w' := by
  have HI := Lib.hid (fun c => is_any c zs b off cap w hz hl hc)
  clear hc hz
  obtain ⟨p, hp⟩ : ∃ p : UInt8 → Bool, (fun c => zs.contains (Lx.cls c)) = p := ⟨_, rfl⟩
  have hp' : ∀ c, zs.contains (Lx.cls c) = p c := fun c => by rw [← hp]
  rw [hp]
  simp only [hp'] at HI
  clear hp hp'
  obtain ⟨E, hE⟩ : ∃ E, Lx.runEnd p s at0 = E := ⟨_, rfl⟩
  rw [hE]
  have HE := Lib.hid hE; clear hE
  go_enter Tryd.func94, Tryd.ntmps94
  go_wp2
  go_loop [7] (fun i => ∃ k : Nat, at0 ≤ k ∧ k ≤ s.size ∧ i = .int .i64 k ∧ Hid (Lx.runEnd p s k = E)) (fun i => s.size - (intOf i).toNat)
  case atStart => exact ⟨at0, Nat.le_refl _, ha, rfl, HE.out⟩
  case round =>
    obtain ⟨k, hk0, hk, rfl, hn⟩ := hrel
    by_cases hlt : k < s.size
    · have HS := Lib.hid (@Lx.runEnd_step p s k hlt)
      have HT := Lib.hid (@Lx.runEnd_stop p s k hlt)
      have HC := Lib.hid (HI.out s[k])
      cases hpk : p s[k]
      · rw [hpk] at HC
        have HP := Lib.hid hpk; clear hpk
        obtain rfl : k = E := (HT.out HP.out).symm.trans hn.out
        go_wp2_with (go_at_call 82; refine HC.out.mono ?_; rintro e w' ⟨rfl, rfl⟩)
        go_ret
        exact ⟨rfl, rfl⟩
      · rw [hpk] at HC
        have HP := Lib.hid hpk; clear hpk
        go_wp2_with (go_at_call 82; refine HC.out.mono ?_; rintro e w' ⟨rfl, rfl⟩)
        go_round
        case rel => exact ⟨k + 1, by omega, by omega, by go_num, (HS.out HP.out).symm.trans hn.out⟩
        case measure => simp [intOf]; omega
    · obtain rfl : k = s.size := by omega
      obtain rfl : s.size = E := (Lx.runEnd_end (Nat.le_refl _)).symm.trans hn.out
      go_wp2
      go_ret
      exact ⟨rfl, rfl⟩

/-- What foreignAt hands back, by where the first byte stands that is none of a text. -/
def foreignV (E n : Nat) : Value := if E < n then .tuple #[.int .i64 (E : Int), .bool true] else .tuple #[.int .i64 0, .bool false]

theorem U8s.one (w : World) (t : Nat) (z : Nat) : U8s (w.alloc (.cells #[.int .u8 (z : Int)] t)) w.heap.size 0 [z] := by
  intro j hj
  obtain rfl : j = 0 := by simp at hj; omega
  simp [go_sem]

set_option maxRecDepth 100000 in
set_option maxHeartbeats 1000000 in
theorem foreignAt_any (s : ByteArray) (w : World) (hs : s.size ≤ 9223372036854775807) :
    Calls Tryd.prog 79 #[.string s] w fun e w' =>
      e = .returned (foreignV (Lx.runEnd Lx.isText s 0) s.size) ∧ Below w.heap.size w w' := by
  have HI := Lib.hid (fun (c : UInt8) (W : World) => is_any c [0] W.heap.size 0 1 (W.alloc (.cells #[.int .u8 0] 112)) (by simp) (by simp) (U8s.one W _ 0))
  obtain ⟨E, hE⟩ : ∃ E, Lx.runEnd Lx.isText s 0 = E := ⟨_, rfl⟩
  have hle : E ≤ s.size := hE ▸ Lx.runEnd_le (Nat.zero_le _)
  rw [hE]
  have HE := Lib.hid hE; clear hE
  go_enter Tryd.func79, Tryd.ntmps79
  go_wp2
  go_loopw [7] (fun i wr => ∃ k : Nat, k ≤ s.size ∧ i = .int .i64 k ∧ Hid (Lx.runEnd Lx.isText s k = E) ∧ Below w.heap.size w wr) (fun i _ => s.size - (intOf i).toNat)
  case atStart => exact ⟨0, Nat.zero_le _, rfl, HE.out, Below.refl _ _⟩
  case round =>
    obtain ⟨k, hk, rfl, hn, hB⟩ := hrel
    by_cases hlt : k < s.size
    · have HS := Lib.hid (@Lx.runEnd_step Lx.isText s k hlt)
      have HT := Lib.hid (@Lx.runEnd_stop Lx.isText s k hlt)
      have HC := Lib.hid (HI.out s[k] wr)
      have hsz := hB.size
      have hco : (List.contains [0] (Lx.cls s[k])) = !(Lx.isText s[k]) := by unfold Lx.isText; generalize Lx.cls s[k] = q; cases q <;> simp
      rw [hco] at HC
      clear hco
      cases hpk : Lx.isText s[k]
      · rw [hpk] at HC
        have HP := Lib.hid hpk; clear hpk
        obtain rfl : k = E := (HT.out HP.out).symm.trans hn.out
        go_wp2_with (go_at_call 82; refine HC.out.mono ?_; rintro e w' ⟨rfl, rfl⟩)
        go_ret2
        exact ⟨by rw [foreignV, if_pos hlt]; rfl, hB.alloc hsz _⟩
      · rw [hpk] at HC
        have HP := Lib.hid hpk; clear hpk
        go_wp2_with (go_at_call 82; refine HC.out.mono ?_; rintro e w' ⟨rfl, rfl⟩)
        go_roundw
        case rel => exact ⟨k + 1, by omega, by go_num, (HS.out HP.out).symm.trans hn.out, hB.alloc hsz _⟩
        case measure => simp [intOf]; omega
    · obtain rfl : k = s.size := by omega
      obtain rfl : s.size = E := (Lx.runEnd_end (Nat.le_refl _)).symm.trans hn.out
      go_wp2
      go_ret2
      exact ⟨by rw [foreignV, if_neg (by omega)]; rfl, hB⟩

theorem ret_two {k l : IntKind} {a b c d : Int} (h : a = b) (h' : c = d) : Ending.returned (.tuple #[.int k a, .int l c]) = .returned (.tuple #[.int k b, .int l d]) := by rw [h, h']

set_option maxRecDepth 100000 in
set_option maxHeartbeats 1000000 in
theorem textError_any (s : ByteArray) (w : World) (hs : s.size ≤ 9223372036854775807) :
    Calls Tryd.prog 49 #[.string s] w fun e w' =>
      e = .returned (.tuple #[.int .i64 ((Lx.textErr s).1 : Int), .int .i64 ((Lx.textErr s).2 : Int)]) ∧ Below w.heap.size w w' := by
  have HF := Lib.hid (foreignAt_any s w hs)
  obtain ⟨T, hT⟩ : ∃ T, Lx.textErr s = T := ⟨_, rfl⟩
  rw [hT]
  unfold Lx.textErr at hT
  generalize Lx.runEnd Lx.isText s 0 = E at *
  have HT := Lib.hid hT; clear hT
  by_cases h1 : 2500 < s.size
  · go_enter Tryd.func49, Tryd.ntmps49
    go_wp2
    go_ret2
    exact ⟨ret_two (by rw [← HT.out, if_pos h1]; rfl) (by rw [← HT.out, if_pos h1]; rfl), Below.refl _ _⟩
  · by_cases h2 : E < s.size
    · have hv : foreignV E s.size = .tuple #[.int .i64 (E : Int), .bool true] := by rw [foreignV, if_pos h2]
      rw [hv] at HF
      clear hv
      go_enter Tryd.func49, Tryd.ntmps49
      go_wp2_with (go_at_call 79; refine HF.out.mono ?_; rintro e w' ⟨rfl, hB⟩)
      go_ret2
      exact ⟨ret_two (by rw [← HT.out, if_neg h1, if_pos h2]) (by rw [← HT.out, if_neg h1, if_pos h2]; rfl), hB⟩
    · have hv : foreignV E s.size = .tuple #[.int .i64 0, .bool false] := by rw [foreignV, if_neg h2]
      rw [hv] at HF
      clear hv
      go_enter Tryd.func49, Tryd.ntmps49
      go_wp2_with (go_at_call 79; refine HF.out.mono ?_; rintro e w' ⟨rfl, hB⟩)
      go_ret2
      exact ⟨ret_two (by rw [← HT.out, if_neg h1, if_neg h2]; rfl) (by rw [← HT.out, if_neg h1, if_neg h2]; rfl), hB⟩
end Go.Proofs.YtchkngabppmbkaaDoor
