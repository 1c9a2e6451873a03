/-
  WALKS: numbers.
-/
import Derived.Test.YtchkngabppmbkaaDoorLexD
import Derived.Lib.AtoiErrMem
namespace Go.Proofs.YtchkngabppmbkaaDoor
open Go.RowKit

/-- What a later world keeps of the variable strconv.ErrRange: it holds nil or an error. -/
def GV (w : World) : Prop := 2 < w.heap.size ∧ ∃ ev, w.cell? ⟨2, 0, none⟩ = some ev ∧ (ev = .nilIface ∨ ∃ te pe, ev = .iface te pe)
theorem GV.below {w w' : World} (h : GV w) (hb : Below w.heap.size w w') : GV w' := by
  obtain ⟨h1, ev, h2, h3⟩ := h
  exact ⟨Nat.lt_of_lt_of_le h1 hb.size, ev, (hb.cell (p := ⟨2, 0, none⟩) h1).trans h2, h3⟩

theorem atoi_digits (t : ByteArray) (h0 : t.size ≠ 0) (hm : t.size ≤ 281474976710656) (hd : Lx.runEnd Lx.isDigit t 0 = t.size) (w : World) (hG : GV w) :
    Calls Tryd.prog 110 #[.string t] w fun e w' => Below w.heap.size w w' ∧
      (∃ (n : Int) (er : Value), e = .returned (.tuple #[.int .i64 n, er]) ∧ ((er = .nilIface ∧ n = (Lx.val 0 t.data.toList : Int) ∧ 0 ≤ n ∧ n ≤ 9223372036854775807) ∨ ((∃ T p, er = .iface T p) ∧ 1000000 < Lx.val 0 t.data.toList))) := by
  have hn : t.data.toList ≠ [] := fun h => h0 (by have : t.data.toList.length = t.size := by simp
                                                  rw [h] at this; simpa using this.symm)
  obtain ⟨_, ev, hv, hev⟩ := hG
  rcases Lx.atoi_val t.data.toList hn (fun c hc => (Lx.isDigit_iff c).1 (Lx.all_of_run hd c hc)) with ⟨h1, h2⟩ | ⟨h1, h2⟩
  · refine (Tryd.strconv_Atoi_ok t (by omega) _ h1 w).mono fun e w' ⟨he, hw⟩ => ⟨?_, _, _, he, .inl ⟨rfl, rfl, by omega, by omega⟩⟩
    rcases hw with rfl | ⟨q, rfl⟩
    · exact Below.refl _ _
    · exact Lib.bytesWorld_below _ _ _
  · refine (Tryd.strconv_Atoi_range t (by omega) h1 ev w hv hev).mono fun e w' ⟨N, he, _, _, hb⟩ => ⟨hb, _, _, he, .inr ⟨⟨_, _, rfl⟩, by omega⟩⟩

set_option maxRecDepth 100000 in
set_option maxHeartbeats 1000000 in
theorem numberError_any (t : ByteArray) (h0 : 0 < t.size) (hm : t.size ≤ 281474976710656) (w : World) (hG : GV w) :
    Calls Tryd.prog 96 #[.string t] w fun e w' => e = .returned (.int .i64 (Lx.numErr t : Int)) ∧ Below w.heap.size w w' := by
  have hrun := run_any t 0 [4] w.heap.size 0 1 (w.alloc (.cells #[.int .u8 4] 112)) (by omega) (by omega) (by simp) (by simp) (U8s.one w _ 4)
  have hB0 : Below w.heap.size w (w.alloc (.cells #[.int .u8 4] 112)) := (Below.refl _ _).alloc (Nat.le_refl _) _
  have HT := Lib.hid (fun hd => atoi_digits t (by omega) hm hd (w.alloc (.cells #[.int .u8 4] 112)) (hG.below hB0))
  clear hG
  change Calls _ _ #[.string t, .int .i64 0, .slice (some ⟨w.heap.size, 0, none⟩) 1 1] _ (fun e w' => e = .returned (.string (t.extract 0 (Lx.runEnd Lx.isDigit t 0))) ∧ _) at hrun
  have hE : Lx.runEnd Lx.isDigit t 0 ≤ t.size := Lx.runEnd_le (Nat.zero_le _)
  by_cases hA : Lx.runEnd Lx.isDigit t 0 = t.size
  · have HA' := Lib.hid (HT.out hA)
    have HN := Lib.hid (Lx.numErr_digits t h0 hA)
    rw [hA, Lx.extract_all] at hrun
    have HR := Lib.hid hrun; clear hrun HT hA hE
    generalize Lx.numErr t = N at *
    generalize Lx.val 0 t.data.toList = V at *
    go_enter Tryd.func96, Tryd.ntmps96
    go_wp2_with (first
      | (go_at_call 94; refine HR.out.mono ?_; rintro e w' ⟨rfl, rfl⟩)
      | (go_at_call 110; refine HA'.out.mono ?_; rintro e w' ⟨hb, n, er, rfl, ⟨rfl, hn, hn0, hn1⟩ | ⟨⟨T, p, rfl⟩, hv⟩⟩))
    all_goals
      go_ret
      refine ⟨ret_int ?_, ?_⟩
      · rw [HN.out]
        try simp only [beq_iff_eq, beq_eq_false_iff_ne] at *
        (repeat' split) <;> omega
      · first
        | exact hB0
        | exact hB0.trans (hb.mono hB0.size)
  · have hN : Lx.numErr t = 4 := by unfold Lx.numErr; rw [if_pos (.inl hA)]
    rw [hN]
    obtain ⟨r, hr⟩ : ∃ r, t.extract 0 (Lx.runEnd Lx.isDigit t 0) = r := ⟨_, rfl⟩
    have hne : ¬ r.toList = t.toList := fun e => hA (by
      have h1 := congrArg ByteArray.size hr
      have h2 : r.size = t.size := by
        rw [Lib.toList_data, Lib.toList_data] at e
        have := congrArg List.length e
        simpa using this
      rw [h2, ByteArray.size_extract] at h1; omega)
    rw [hr] at hrun
    have HR := Lib.hid hrun; clear hrun HT hA hE hr hN
    go_enter Tryd.func96, Tryd.ntmps96
    go_wp2_with (go_at_call 94; refine HR.out.mono ?_; rintro e w' ⟨rfl, rfl⟩)
    go_ret
    exact ⟨rfl, hB0⟩
end Go.Proofs.YtchkngabppmbkaaDoor
