/-
  WALKS: lex.Tight.
-/
import Derived.Test.YtchkngabppmbkaaDoorLexN
import Derived.Test.YtchkngabppmbkaaDoorLexM
import Derived.Test.YtchkngabppmbkaaDoorLexT
import Derived.Test.YtchkngabppmbkaaDoorSpecT
import Derived.StillTailTactics
import Derived.BigQuiet
namespace Go.Proofs.YtchkngabppmbkaaDoor
open Go.RowKit

set_option maxHeartbeats 1000000 in
set_option maxRecDepth 100000 in
theorem builderLen_any (B b : Nat) (bs : List Value) (w : World) (h : Lib.IsBuilder 80 5 B b bs w) :
    Calls Tryd.prog 60 #[.pointer (some ⟨b, 0, none⟩)] w fun e w' => e = .returned (.int .i64 bs.length) ∧ w' = w := by
  have hh : ∃ v ao c, w.cell? ⟨b, 1, none⟩ = some v ∧ v = .slice ao bs.length c := by
    rcases h with ⟨h1, v, h2, h3, h4⟩ | ⟨h1, v, h2, h3, h4⟩
    · rcases h3.2 with ⟨hv, hn⟩ | ⟨g, cap, cur, hv, _⟩
      · exact ⟨v, none, 0, by rw [Lib.cell_of_heap h2]; rfl, by rw [hv, hn]⟩
      · exact ⟨v, _, _, by rw [Lib.cell_of_heap h2]; rfl, hv⟩
    · rcases h3.2 with ⟨hv, hn⟩ | ⟨g, cap, cur, hv, _⟩
      · exact ⟨v, none, 0, by rw [Lib.cell_of_heap h2]; rfl, by rw [hv, hn]⟩
      · exact ⟨v, _, _, by rw [Lib.cell_of_heap h2]; rfl, hv⟩
  obtain ⟨v, ao, c, c1, rfl⟩ := hh
  go_enter Tryd.func60, Tryd.ntmps60
  go_wp2
  go_ret
  exact ⟨rfl, rfl⟩

set_option maxRecDepth 100000 in
set_option maxHeartbeats 2000000 in
theorem clash_any (x y : Lx.Tk) (w : World) :
    Calls Tryd.prog 57 #[.agg #[.int .u8 x.kind, .string x.text, .int .i64 x.pos], .agg #[.int .u8 y.kind, .string y.text, .int .i64 y.pos]] w fun e w' => e = .returned (.bool (Lx.clashT x y)) ∧ Below w.heap.size w w' := by
  have hB : Below w.heap.size w ((w.alloc (.cells #[.int .u8 x.kind, .string x.text, .int .i64 x.pos] 63)).alloc (.cells #[.int .u8 y.kind, .string y.text, .int .i64 y.pos] 63)) := ((Below.refl _ _).alloc (Nat.le_refl _) _).alloc (by simp) _
  obtain ⟨R, hR⟩ : ∃ R, Lx.clashT x y = R := ⟨_, rfl⟩
  rw [hR]
  unfold Lx.clashT at hR
  have ec := str_eq x.text Lx.colon
  have ee := str_eq y.text Lx.equals
  rw [show Lx.colon.toList = [58] from (ByteArray.toList_eq _).trans rfl] at ec
  rw [show Lx.equals.toList = [61] from (ByteArray.toList_eq _).trans rfl] at ee
  unfold Lx.colon at ec
  unfold Lx.equals at ee
  by_cases h4 : x.kind = 4 ∨ y.kind = 4
  · rw [if_pos h4] at hR
    have HV := Lib.hid hR.symm
    have h4' : (x.kind = 4) ∨ (x.kind ≠ 4 ∧ y.kind = 4) := by omega
    clear hR h4
    have c5 : (x.text = ⟨#[58]⟩ ∧ y.text = ⟨#[61]⟩) ∨ (x.text = ⟨#[58]⟩ ∧ y.text ≠ ⟨#[61]⟩) ∨ x.text ≠ ⟨#[58]⟩ := by
      by_cases c : x.text = ⟨#[58]⟩
      · by_cases d : y.text = ⟨#[61]⟩
        · exact .inl ⟨c, d⟩
        · exact .inr (.inl ⟨c, d⟩)
      · exact .inr (.inr c)
    have HVV : Hid (R = decide (x.text = ⟨#[58]⟩ ∧ y.text = ⟨#[61]⟩)) := HV.out
    clear HV
    obtain ⟨kx, tx, px⟩ := x
    obtain ⟨ky, ty, py⟩ := y
    simp only at *
    rcases h4' with rfl | ⟨h4, rfl⟩
    all_goals
      rcases c5 with ⟨c5, c6⟩ | ⟨c5, c6⟩ | c5
      · have HT : Hid (R = true) := by rw [Hid, HVV.out]; exact decide_eq_true ⟨c5, c6⟩
        rw [decide_eq_true c5] at ec
        rw [decide_eq_true c6] at ee
        clear c5 c6 HVV
        go_enter Tryd.func57, Tryd.ntmps57
        go_wp2
        go_ret
        exact ⟨ret_bool (by first | (rw [HT.out]; done) | (rw [HT.out]; simp [ec, ee]) | (rw [HT.out]; simp [ec])), hB⟩
      · have HT : Hid (R = false) := by rw [Hid, HVV.out]; exact decide_eq_false (fun h => c6 h.2)
        rw [decide_eq_true c5] at ec
        rw [decide_eq_false c6] at ee
        clear c5 c6 HVV
        go_enter Tryd.func57, Tryd.ntmps57
        go_wp2
        go_ret
        exact ⟨ret_bool (by first | (rw [HT.out]; done) | (rw [HT.out]; simp [ec, ee]) | (rw [HT.out]; simp [ec])), hB⟩
      · have HT : Hid (R = false) := by rw [Hid, HVV.out]; exact decide_eq_false (fun h => c5 h.1)
        rw [decide_eq_false c5] at ec
        clear c5 HVV
        go_enter Tryd.func57, Tryd.ntmps57
        go_wp2
        go_ret
        exact ⟨ret_bool (by first | (rw [HT.out]; done) | (rw [HT.out]; simp [ec, ee]) | (rw [HT.out]; simp [ec])), hB⟩
  · rw [if_neg h4] at hR
    have HV := Lib.hid hR.symm
    have k1 : (x.kind == 4) = false := by rw [beq_eq_false_iff_ne]; omega
    have k2 : (y.kind == 4) = false := by rw [beq_eq_false_iff_ne]; omega
    clear hR h4 ec ee
    go_enter Tryd.func57, Tryd.ntmps57
    go_wp2
    go_ret
    exact ⟨by rw [HV.out]; rfl, hB⟩

set_option maxRecDepth 100000 in
set_option maxHeartbeats 2000000 in
theorem listError_any (l : List Lx.Tk) (A : Option Addr) (c : Nat) (w : World) (hG : GV w) (hl : l.length ≤ 1152921504606846976) (hz : ∀ x ∈ l, x.text.size ≤ 281474976710656) (hA : Tks w w.heap.size A l) :
    Calls Tryd.prog 56 #[.slice A l.length c] w fun e w' => e = .returned (.int .i64 (Lx.listErr l : Int)) ∧ Below w.heap.size w w' := by
  have HR := Lib.hid (right_any l A c w hG hl hz hA)
  obtain ⟨R, hR⟩ : ∃ R, Lx.listErr l = R := ⟨_, rfl⟩
  rw [hR]
  unfold Lx.listErr at hR
  by_cases h1 : 900 < l.length
  · rw [if_pos h1] at hR
    have HV := Lib.hid hR.symm
    clear hR hA hz
    go_enter Tryd.func56, Tryd.ntmps56
    go_wp2
    go_ret
    exact ⟨by rw [HV.out]; rfl, Below.refl _ _⟩
  · rw [if_neg h1] at hR
    cases ho : l.all Lx.tokOk
    · rw [ho, if_pos rfl] at hR
      rw [ho] at HR
      have HV := Lib.hid hR.symm
      clear hR hA hz ho
      go_enter Tryd.func56, Tryd.ntmps56
      go_wp2_with (go_at_call 76; refine HR.out.mono ?_; rintro e w1 ⟨rfl, hB1⟩)
      go_ret
      exact ⟨by rw [HV.out]; rfl, hB1⟩
    · rw [ho, if_neg (by simp)] at hR
      rw [ho] at HR
      have HV := Lib.hid hR.symm
      clear hR hA hz ho
      go_enter Tryd.func56, Tryd.ntmps56
      go_wp2_with (go_at_call 76; refine HR.out.mono ?_; rintro e w1 ⟨rfl, hB1⟩)
      go_ret
      exact ⟨by rw [HV.out]; rfl, hB1⟩
end Go.Proofs.YtchkngabppmbkaaDoor
