/-
  WALKS: lex.Moved.
-/
import Derived.Test.YtchkngabppmbkaaDoorLexV
namespace Go.Proofs.YtchkngabppmbkaaDoor
open Go.RowKit

/-- What a call leaves that returns a number and an error. -/
def NumRet (R : Int × Nat) (w : World) (e : Ending) (w' : World) : Prop := e = .returned (.tuple #[.int .i64 R.1, .int .i64 (R.2 : Int)]) ∧ Below w.heap.size w w'
theorem numRet {R : Int × Nat} {w w' : World} {e : Ending} {a : Int} {n : Nat} (hR : R = (a, n)) (he : e = .returned (.tuple #[.int .i64 a, .int .i64 (n : Int)])) (hB : Below w.heap.size w w') : NumRet R w e w' := by
  subst hR; exact ⟨he, hB⟩

set_option maxRecDepth 100000 in
set_option maxHeartbeats 4000000 in
theorem moved_any (s : ByteArray) (l : List Lx.Spl) (p : Int) (A : Option Addr) (c : Nat) (w : World) (hz : s.size ≤ 281474976710656) (hl : l.length ≤ 1152921504606846976) (ht : ∀ x ∈ l, x.text.size ≤ 1099511627776) (hS : Spls w w.heap.size A l) :
    Calls Tryd.prog 37 #[.string s, .slice A l.length c, .int .i64 p] w (NumRet (Lx.movedOf s l p) w) := by
  have HC := Lib.hid (changesOf_any s l A c w hz hl ht hS)
  obtain ⟨R, hR⟩ : ∃ R, Lx.movedOf s l p = R := ⟨_, rfl⟩
  rw [hR]
  by_cases h0 : (Lx.changesOf s l).2 ≠ 0
  · rw [Lx.movedOf, if_pos h0] at hR
    generalize (Lx.changesOf s l).1 = L at *
    generalize (Lx.changesOf s l).2 = er at *
    have h0' : ((er : Int) != 0) = true := by rw [bne_iff_ne]; omega
    have HV := Lib.hid hR.symm
    clear h0 ht hS hR
    go_enter Tryd.func37, Tryd.ntmps37
    go_wp2_with (go_at_call 66; refine HC.out.mono ?_; rintro e w1 ⟨v, rfl, hown, hB1⟩)
    go_ret2
    exact numRet HV.out rfl hB1
  · have h0 : (Lx.changesOf s l).2 = 0 := by omega
    obtain ⟨hL, hte, h40, hr, _, _⟩ := Lx.changesOf_ok h0
    have hsm := Lx.textErr_le hte
    rw [Lx.movedOf, if_neg (by omega)] at hR
    have hbd := Lx.chgs_bounds s hsm (g := 0) hr (by omega) ht
    have hlen : (Lx.chgs s 0 l).length = l.length := Lx.chgs_length s l 0
    rw [hL, h0] at HC
    obtain ⟨L, hLL⟩ : ∃ L, Lx.chgs s 0 l = L := ⟨_, rfl⟩
    rw [hLL] at HC hlen hbd hR
    have HBD := Lib.hid hbd
    have HV := Lib.hid hR.symm
    clear h0 hL hte hR hr ht hS hLL hbd
    by_cases hp : p < 0 ∨ (s.size : Int) < p
    · have HV2 : Hid (R = (0, 3)) := by rw [Hid, HV.out, if_pos hp]
      have hd : (p < 0) ∨ (0 ≤ p ∧ (s.size : Int) < p) := by omega
      clear hp HV
      rcases hd with hd | ⟨hd, hd2⟩
      all_goals
        go_enter Tryd.func37, Tryd.ntmps37
        go_wp2_with (go_at_call 66; refine HC.out.mono ?_; rintro e w1 ⟨v, rfl, hown, hB1⟩)
        go_ret2
        exact numRet HV2.out rfl hB1
    · have HV2 : Hid (R = Lx.movedScan p p L) := by rw [Hid, HV.out, if_neg hp]
      have hq0 : 0 ≤ p := by omega
      have hq1 : p ≤ (s.size : Int) := by omega
      clear hp HV
      go_enter Tryd.func37, Tryd.ntmps37
      go_wp2_with (go_at_call 66; refine HC.out.mono ?_; rintro e w1 ⟨v, rfl, hown, hB1⟩; obtain ⟨ao, cap, rfl⟩ := own_slice_form hown)
      have HB1 := Lib.hid hB1
      have HOWN := Lib.hid hown
      clear hB1 hown
      go_loopw [10, 33] (fun m i wr => ∃ (k : Nat) (q : Int), k ≤ L.length ∧ i = .int .i64 k ∧ m = .int .i64 q ∧ Hid (R = Lx.movedScan p q (L.drop k)) ∧ Below w1.heap.size w1 wr) (fun _ i _ => L.length - (intOf i).toNat)
      case atStart => exact ⟨0, p, Nat.zero_le _, rfl, rfl, HV2.out, Below.refl _ _⟩
      case round =>
        obtain ⟨k, q, hk, rfl, rfl, hsc, hBr⟩ := hrel
        have hszr := hBr.size
        by_cases hlt : k < L.length
        · obtain ⟨gg, cap', hv, hg1, hg2, hcs⟩ := ownsRow_cells HOWN.out (by omega)
          cases hv
          obtain ⟨x, hx⟩ : ∃ x, L[k]? = some x := ⟨_, List.getElem?_eq_getElem hlt⟩
          have hbx := HBD.out x (List.mem_of_getElem? hx)
          have hp0 : -4611686018427387904 ≤ x.pos := by omega
          have hp1 : x.pos ≤ 4611686018427387904 := by omega
          have hp2 : -100000 ≤ x.pos := by omega
          have hp3 : x.pos ≤ 70368744277664 := by omega
          have htx := hbx.2.2.2.1
          have hh0 := hbx.1
          have hh1 := hbx.2.1
          have hh2 := hbx.2.2.1
          have HE := Lib.hid (fun W => end_any x W hp0 hp1 htx)
          have e0 : wr.cell? ⟨gg, k * 5, none⟩ = some (.int .i64 x.spl.lo) := (hBr.cell (p := ⟨gg, _, none⟩) hg2).trans (hcs _ _ (chgsCells_get L k x hx 0 _ rfl))
          have e1 : wr.cell? ⟨gg, k * 5 + 1, none⟩ = some (.int .i64 x.spl.hi) := (hBr.cell (p := ⟨gg, _, none⟩) hg2).trans (hcs _ _ (chgsCells_get L k x hx 1 _ rfl))
          have e2 : wr.cell? ⟨gg, k * 5 + 2, none⟩ = some (.string x.spl.text) := (hBr.cell (p := ⟨gg, _, none⟩) hg2).trans (hcs _ _ (chgsCells_get L k x hx 2 _ rfl))
          have e3 : wr.cell? ⟨gg, k * 5 + 3, none⟩ = some (.int .i64 x.pos) := (hBr.cell (p := ⟨gg, _, none⟩) hg2).trans (hcs _ _ (chgsCells_get L k x hx 3 _ rfl))
          have e4 : wr.cell? ⟨gg, k * 5 + 4, none⟩ = some (.string x.out) := (hBr.cell (p := ⟨gg, _, none⟩) hg2).trans (hcs _ _ (chgsCells_get L k x hx 4 _ rfl))
          have hd := Lx.drop_of_get hx
          have hsc' := hsc.out
          rw [hd, Lx.movedScan] at hsc'
          have hk40 : k ≤ 40 := by omega
          clear hbx hcs hx hsc hd
          by_cases hin : x.spl.lo ≤ p ∧ p < x.spl.hi
          · rw [if_pos hin] at hsc'
            have HS := Lib.hid hsc'
            obtain ⟨a1, a2⟩ := hin
            clear hsc'
            go_wp2
            go_ret2
            exact numRet HS.out rfl (HB1.out.trans ((hBr.alloc hszr _).mono HB1.out.size))
          · rw [if_neg hin] at hsc'
            by_cases hbe : x.spl.hi ≤ p
            · rw [if_pos hbe] at hsc'
              have HS := Lib.hid hsc'
              have a1 : x.spl.lo ≤ p := by omega
              have a2 : ¬ p < x.spl.hi := by omega
              clear hsc' hin
              have hB2 : Below w1.heap.size w1 ((wr.alloc (.cells #[.int .i64 x.spl.lo, .int .i64 x.spl.hi, .string x.spl.text, .int .i64 x.pos, .string x.out] 95)).alloc (.cells #[.int .i64 x.spl.lo, .int .i64 x.spl.hi, .string x.spl.text, .int .i64 x.pos, .string x.out] 95)) := (hBr.alloc hszr _).alloc (by simp; omega) _
              go_wp2
              go_region_with (go_at_call 69; refine (HE.out _).mono ?_; rintro e w3 ⟨rfl, rfl⟩)
              all_goals
                go_wp2
                go_roundw
                case rel => exact ⟨k + 1, x.pos + x.spl.text.size + p - x.spl.hi, by omega, by go_num, rfl, HS.out, by repeat (first | assumption | refine Below.drew ?_ | refine below_drewN ?_ _)⟩
                case measure => simp [intOf]; omega
            · rw [if_neg hbe] at hsc'
              have HS := Lib.hid hsc'
              have a1 : p < x.spl.lo := by omega
              clear hsc' hin
              go_wp2
              go_roundw
              case rel => exact ⟨k + 1, q, by omega, by go_num, rfl, HS.out, hBr.alloc hszr _⟩
              case measure => simp [intOf]; omega
        · obtain rfl : k = L.length := by omega
          have hsc' := hsc.out
          rw [List.drop_length, Lx.movedScan] at hsc'
          have HS := Lib.hid hsc'
          clear hsc hsc'
          go_wp2
          go_ret2
          exact numRet HS.out rfl (HB1.out.trans (hBr.mono HB1.out.size))
end Go.Proofs.YtchkngabppmbkaaDoor
