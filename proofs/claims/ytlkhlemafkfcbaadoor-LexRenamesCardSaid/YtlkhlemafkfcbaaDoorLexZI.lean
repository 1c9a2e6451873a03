/-
  WALKS: the reference's Tokens and Notes.
-/
import Derived.Test.YtlkhlemafkfcbaaDoorLexZH
import Derived.Test.YtlkhlemafkfcbaaDoorLexR
namespace Go.Proofs.YtlkhlemafkfcbaaDoor
open Go.RowKit

def ToksRet (R : List Lx.Item × Nat × Nat) (w : World) (e : Ending) (w' : World) : Prop := ∃ v, e = .returned (.tuple #[v, .int .i64 (R.2.1 : Int), .int .i64 (R.2.2 : Int)]) ∧
  w'.ownsRow w.heap.size 63 3 v R.1.length (toksCells R.1) ∧ Below w.heap.size w w'
theorem toksRet_none {R : List Lx.Item × Nat × Nat} {p n : Nat} {w w' : World} {e : Ending} (hR : R = ([], p, n)) (he : e = .returned (.tuple #[.slice none 0 0, .int .i64 (p : Int), .int .i64 (n : Int)])) (hB : Below w.heap.size w w') : ToksRet R w e w' := by
  subst hR; exact ⟨_, he, World.ownsRow_nil _ _ _ _, hB⟩

set_option maxRecDepth 100000 in
set_option maxHeartbeats 4000000 in
theorem refTokens_any (s : ByteArray) (w : World) (hs : s.size ≤ 281474976710656) :
    Calls Tryd.prog 20 #[.string s] w (ToksRet (Lx.tokensOf s) w) := by
  have HT := Lib.hid (fun W => refTextError_any s W (by omega))
  obtain ⟨R, hR⟩ : ∃ R, Lx.tokensOf s = R := ⟨_, rfl⟩
  rw [hR]
  unfold Lx.tokensOf at hR
  by_cases h0 : (Lx.textErr s).2 ≠ 0
  · rw [if_pos h0] at hR
    generalize (Lx.textErr s).1 = p at *
    generalize (Lx.textErr s).2 = er at *
    have h0' : ((er : Int) != 0) = true := by rw [bne_iff_ne]; omega
    have HV := Lib.hid hR.symm
    clear h0 hR
    go_enter Tryd.func20, Tryd.ntmps20
    go_wp2_with (go_at_call 51; refine (HT.out _).mono ?_; rintro e w1 ⟨rfl, rfl⟩)
    go_ret3
    exact toksRet_none HV.out rfl (Below.refl _ _)
  · have h0 : (Lx.textErr s).2 = 0 := by omega
    rw [if_neg (by omega)] at hR
    have hsm := Lx.textErr_le h0
    have HA := Lib.hid (fun W => refAll_any s W hsm)
    rw [h0] at HT
    generalize (Lx.textErr s).1 = p at *
    subst hR
    generalize Lx.tokScan [] (Lx.pieces s) = R at *
    clear h0
    go_enter Tryd.func20, Tryd.ntmps20
    go_wp2_with (first
      | (go_at_call 51; refine (HT.out _).mono ?_; rintro e w1 ⟨rfl, rfl⟩)
      | (go_at_call 52; refine (HA.out _).mono ?_; rintro e w1 ⟨v, vn, rfl, hown, hB1⟩; have HO := Lib.hid hown; clear hown))
    go_ret3
    exact ⟨_, rfl, HO.out, hB1⟩

theorem noteAt_eq {s : ByteArray} {k : Nat} (hk : k < s.size) (h6 : Lx.cls s[k] = 6) : Lx.itemAt s k = ⟨5, s.extract (k + 1) (Lx.runEnd Lx.notNL s (k + 1)), k, 0⟩ := by
  unfold Lx.itemAt Lx.piece; rw [Lx.byteAt_eq s k hk, if_pos h6]
end Go.Proofs.YtlkhlemafkfcbaaDoor
