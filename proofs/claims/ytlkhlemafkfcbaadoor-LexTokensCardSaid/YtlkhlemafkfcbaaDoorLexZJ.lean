/-
  WALKS: the reference's Notes.
-/
import Derived.Test.YtlkhlemafkfcbaaDoorLexZI
import Derived.Test.YtlkhlemafkfcbaaDoorSpecN
namespace Go.Proofs.YtlkhlemafkfcbaaDoor
open Go.RowKit

def NotesRet (R : List Lx.Item × Nat) (w : World) (e : Ending) (w' : World) : Prop := ∃ v, e = .returned (.tuple #[v, .int .i64 (R.2 : Int)]) ∧
  w'.ownsRow w.heap.size 63 3 v R.1.length (toksCells R.1) ∧ Below w.heap.size w w'
theorem notesRet_none {R : List Lx.Item × Nat} {n : Nat} {w w' : World} {e : Ending} (hR : R = ([], n)) (he : e = .returned (.tuple #[.slice none 0 0, .int .i64 (n : Int)])) (hB : Below w.heap.size w w') : NotesRet R w e w' := by
  subst hR; exact ⟨_, he, World.ownsRow_nil _ _ _ _, hB⟩

set_option maxRecDepth 100000 in
set_option maxHeartbeats 4000000 in
theorem refNotes_any (s : ByteArray) (w : World) (hs : s.size ≤ 281474976710656) :
    Calls Tryd.prog 22 #[.string s] w (NotesRet (Lx.notesOf s) w) := by
  obtain ⟨i0, hi, hz0, hz1, hz2⟩ := info_parts infoTok
  have HT := Lib.hid (fun W => refTextError_any s W (by omega))
  by_cases h0 : (Lx.textErr s).2 ≠ 0
  · obtain ⟨R, hR⟩ : ∃ R, Lx.notesOf s = R := ⟨_, rfl⟩
    rw [hR]
    unfold Lx.notesOf at hR
    rw [if_pos h0] at hR
    generalize (Lx.textErr s).1 = p at *
    generalize (Lx.textErr s).2 = er at *
    have h0' : ((er : Int) != 0) = true := by rw [bne_iff_ne]; omega
    have HV := Lib.hid hR.symm
    clear h0 hR
    go_enter Tryd.func22, Tryd.ntmps22
    go_wp2_with (go_at_call 51; refine (HT.out _).mono ?_; rintro e w1 ⟨rfl, rfl⟩)
    go_ret2
    exact notesRet_none HV.out rfl (Below.refl _ _)
  · have h0 : (Lx.textErr s).2 = 0 := by omega
    have hsm := Lx.textErr_le h0
    rw [Lx.notesOf_ref h0]
    obtain ⟨L, hL⟩ : ∃ L, Lx.refNotesAt s 0 = L := ⟨_, rfl⟩
    rw [hL]
    have HL := Lib.hid hL; clear hL
    have HN := Lib.hid (fun k W (hk : k ≤ s.size) => refNote_any s k W (by omega) hk)
    rw [h0] at HT
    generalize (Lx.textErr s).1 = p at *
    clear h0
    go_enter Tryd.func22, Tryd.ntmps22
    go_wp2_with (go_at_call 51; refine (HT.out _).mono ?_; rintro e w1 ⟨rfl, rfl⟩)
    go_loopw [6, 7] (fun v i wr => ∃ (k : Nat) (acc : List Lx.Item), k ≤ s.size ∧ i = .int .i64 k ∧ acc.length ≤ k ∧ Hid (L = acc ++ Lx.refNotesAt s k) ∧
        Hid (wr.ownsRow w1.heap.size 63 3 v acc.length (toksCells acc)) ∧ Below w1.heap.size w1 wr) (fun _ i _ => s.size - (intOf i).toNat)
    case atStart => exact ⟨0, [], Nat.zero_le _, rfl, by simp, HL.out.symm, World.ownsRow_nil _ _ _ _, Below.refl _ _⟩
    case round =>
      obtain ⟨k, acc, hk, rfl, hacc, hsc, hown, hB⟩ := hrel
      have hszr := hB.size
      obtain ⟨vo, vc, rfl⟩ := own_slice_form hown.out
      by_cases hlt : k < s.size
      · have htb := tilde_byte s[k]
        have hcl : Lx.byteAt s k = s[k] := Lx.byteAt_eq s k hlt
        have haf := Lx.after_gt hlt
        by_cases h6 : Lx.cls s[k] = 6
        · have h5 : (((s[k].toNat : Nat) : Int) != 126) = false := by
            rw [h6] at htb
            have : (s[k].toNat == 126) = true := htb.symm
            rw [beq_iff_eq] at this
            rw [bne_eq_false_iff_eq]
            omega
          have hnl : Lx.notNL s[k] = true := by
            unfold Lx.notNL
            rw [bne_iff_ne]
            intro e
            rw [e] at h6
            exact absurd h6 (by decide)
          have hE := Lx.runEnd_step hlt hnl
          have hge := Lx.runEnd_ge (p := Lx.notNL) (s := s) (k := k + 1)
          have hle := Lx.runEnd_le (p := Lx.notNL) (s := s) (k := k + 1) (by omega)
          have hia := noteAt_eq hlt h6
          have hsz : (s.extract (k + 1) (Lx.runEnd Lx.notNL s (k + 1))).size = Lx.runEnd Lx.notNL s (k + 1) - (k + 1) := by rw [ByteArray.size_extract]; omega
          have haft : Lx.after (Lx.itemAt s k) = Lx.runEnd Lx.notNL s (k + 1) := by rw [hia]; unfold Lx.after; simp only [if_true]; rw [hsz]; omega
          have hsc' := hsc.out
          rw [Lx.refNotesAt_note hlt (by rw [hcl]; exact h6), haft, hia, ← hE] at hsc'
          have HNk := Lib.hid (fun W => HN.out k W (by omega))
          have hNs : (s.extract k (Lx.runEnd Lx.notNL s k)).size = Lx.runEnd Lx.notNL s k - k := by rw [ByteArray.size_extract]; omega
          have hcut : (s.extract k (Lx.runEnd Lx.notNL s k)).extract 1 (s.extract k (Lx.runEnd Lx.notNL s k)).size = s.extract (k + 1) (Lx.runEnd Lx.notNL s k) := by
            rw [hNs, ByteArray.extract_extract]; congr 1; omega
          rw [← hcut] at hsc'
          have hE1 : k + 1 ≤ Lx.runEnd Lx.notNL s k := by omega
          have hE2 : Lx.runEnd Lx.notNL s k ≤ s.size := by omega
          have HX := Lib.hid hsc'
          clear hE hge hle hia hsz haft hsc haf hnl htb hcl h6 hcut hsc'
          generalize Lx.runEnd Lx.notNL s k = E at *
          generalize s.extract k E = T at *
          have hT1 : 1 ≤ T.size := by omega
          have hT2 : T.size ≤ 2500 := by omega
          have hkE : E = k + T.size := by omega
          have HE := Lib.hid hkE
          clear hNs hkE
          have HO := Lib.hid hown.out
          clear hown
          go_wp2_with (first
            | (go_at_call 53; refine (HNk.out _).mono ?_; rintro e w' ⟨rfl, rfl⟩)
            | (at_builtin; go_loud (refine wpList_append_own_at _ rfl _ _ 23 rfl w1.heap.size 63 i0 (.agg #[.int .u8 0, .string ⟨#[]⟩, .int .i64 0]) 3 32 Tryd.underlying23 hi hz0 hz1 hz2 rfl (by decide) _ _ _ rfl (HO.out.alloc _) ⟨wr.heap.size, 0, none⟩ 1 1 [.int .u8 5, .string (T.extract 1 T.size), .int .i64 (k : Int)] rfl rfl (cells_new _ _ _) (by simp [Value.oneCell']) (by unfold maxLen; omega) (by omega) (by simp; omega) ?_); intro v' w5 hown' hgrow _ hat; have hB5 := (hB.alloc hszr _).trans (below_grown (HO.out.alloc _) (by simp; omega) hgrow)))
          go_roundw
          case rel => exact ⟨E, acc ++ [(⟨5, T.extract 1 T.size, k, 0⟩ : Lx.Item)], hE2, by rw [HE.out]; go_num, by rw [List.length_append, List.length_singleton]; omega, by rw [Hid, HX.out]; simp, by rw [Hid, List.length_append]; simpa [toksCells, tokCells] using hown', hB5⟩
          case measure => have := HE.out; simp [intOf]; omega
        · have h5 : (((s[k].toNat : Nat) : Int) != 126) = true := by
            have : (s[k].toNat == 126) = false := by rw [← htb, beq_eq_false_iff_ne]; exact h6
            rw [beq_eq_false_iff_ne] at this
            rw [bne_iff_ne]
            omega
          have hsc' := hsc.out
          rw [Lx.refNotesAt_skip hlt (by rw [hcl]; exact h6)] at hsc'
          have HX := Lib.hid hsc'
          clear hsc hsc' htb hcl h6 haf
          go_wp2
          go_roundw
          case rel => exact ⟨k + 1, acc, by omega, by go_num, by omega, HX.out, hown.out, hB⟩
          case measure => simp [intOf]; omega
      · obtain rfl : k = s.size := by omega
        have hsc' := hsc.out
        rw [Lx.refNotesAt_end (Nat.le_refl _), List.append_nil] at hsc'
        have HV := Lib.hid hsc'
        have HO := Lib.hid hown.out
        clear hsc hsc' hown
        go_wp2
        go_ret2
        unfold NotesRet
        rw [HV.out]
        exact ⟨_, rfl, HO.out, hB⟩
end Go.Proofs.YtlkhlemafkfcbaaDoor
