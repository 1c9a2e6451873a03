/-
  WALKS: the reference's Spliced, Apply, Moved, Undo.
-/
import Derived.Test.YtlkhlemafkfcbaaDoorLexZ
import Derived.Test.YtlkhlemafkfcbaaDoorLexX
import Derived.Test.YtlkhlemafkfcbaaDoorSpecK
namespace Go.Proofs.YtlkhlemafkfcbaaDoor
open Go.RowKit

theorem bytes_append (a b : ByteArray) : (a ++ b).data.toList = a.data.toList ++ b.data.toList := by simp
theorem bytes_eq {a : ByteArray} {l : List UInt8} (h : a.data.toList = l) : a = ⟨l.toArray⟩ := by
  apply ByteArray.ext; apply Array.toList_inj.1; simpa using h

set_option maxRecDepth 100000 in
set_option maxHeartbeats 4000000 in
theorem refSpliced_any (s : ByteArray) (l : List Lx.Spl) (A : Option Addr) (c : Nat) (w : World) (hz : s.size ≤ 2500) (h40 : l.length ≤ 40) (hr : Lx.rightFrom s.size 0 l = true) (ht : ∀ x ∈ l, x.text.size ≤ 1099511627776) (hS : Spls w w.heap.size A l) :
    Calls Tryd.prog 68 #[.string s, .slice A l.length c] w fun e w' => e = .returned (.string ⟨(Lx.spliceOut s 0 l).toArray⟩) ∧ Below w.heap.size w w' := by
  obtain ⟨R, hR⟩ : ∃ R, Lx.spliceOut s 0 l = R := ⟨_, rfl⟩
  rw [hR]
  have HR := Lib.hid hR; have Hr := Lib.hid hr; have HT := Lib.hid ht; have HS := Lib.hid hS
  clear hR hr ht hS
  go_enter Tryd.func68, Tryd.ntmps68
  go_wp2
  go_loopw [5, 6, 7] (fun o d i wr => ∃ (k : Nat) (q : Int) (out : ByteArray), k ≤ l.length ∧ i = .int .i64 k ∧ d = .int .i64 q ∧ o = .string out ∧ 0 ≤ q ∧ q ≤ s.size ∧ out.size ≤ k * 1099511640000 ∧ Hid (Lx.rightFrom s.size q (l.drop k) = true) ∧ Hid (R = out.data.toList ++ Lx.spliceOut s q (l.drop k)) ∧ Below w.heap.size w wr) (fun _ _ i _ => l.length - (intOf i).toNat)
  case atStart => exact ⟨0, 0, ⟨#[]⟩, Nat.zero_le _, rfl, rfl, rfl, by omega, by omega, by simp [ByteArray.size], Hr.out, by rw [Hid, ← HR.out]; rfl, Below.refl _ _⟩
  case round =>
    obtain ⟨k, q, out, hk, rfl, rfl, rfl, hq0, hq1, hos, hrf, hsp, hB⟩ := hrel
    by_cases hlt : k < l.length
    · obtain ⟨b, off, rfl, hbB, hc⟩ := HS.out.below hB (by intro e; subst e; simp at hlt)
      obtain ⟨x, hx⟩ : ∃ x, l[k]? = some x := ⟨_, List.getElem?_eq_getElem hlt⟩
      have htx := HT.out x (List.mem_of_getElem? hx)
      obtain ⟨e1, e2, e3⟩ := hc k x hx
      have hd := Lx.drop_of_get hx
      have hrf' := hrf.out
      rw [hd] at hrf'
      have ha := Lx.rightFrom_all hrf' x (by simp)
      rw [rightFrom_cons] at hrf'
      simp only [Bool.and_eq_true] at hrf'
      have HRF2 := Lib.hid hrf'.2
      have hsp' := hsp.out
      rw [hd, Lx.spliceOut] at hsp'
      have HSP := Lib.hid hsp'
      have hsz : (s.extract q.toNat x.lo.toNat).size ≤ 2500 := by rw [ByteArray.size_extract]; omega
      have ad1 : ∀ W : World, (Op.stringOp .add (s.extract q.toNat x.lo.toNat) x.text).run Tryd.prog W = .ok (.string (s.extract q.toNat x.lo.toNat ++ x.text)) W := fun W => run_string_add_sum (w := W) _ _ (by omega)
      have hs2 : (s.extract q.toNat x.lo.toNat ++ x.text).size ≤ 1099511640000 := by rw [ByteArray.size_append]; omega
      have ad2 : ∀ W : World, (Op.stringOp .add out (s.extract q.toNat x.lo.toNat ++ x.text)).run Tryd.prog W = .ok (.string (out ++ (s.extract q.toNat x.lo.toNat ++ x.text))) W := fun W => run_string_add_sum (w := W) _ _ (by omega)
      have hs3 : (out ++ (s.extract q.toNat x.lo.toNat ++ x.text)).size ≤ (k + 1) * 1099511640000 := by rw [ByteArray.size_append]; omega
      have HZ := Lib.hid hs3
      have hl0 := ha.1; have hl1 := ha.2.1; have hl2 := ha.2.2
      clear hrf hrf' hsp hsp' hd hx hc ha hs3
      go_wp2
      go_quiet (fail)
      go_wp2
      go_roundw
      case rel => exact ⟨k + 1, x.hi, _, by omega, by go_num, rfl, rfl, by omega, by omega, HZ.out, HRF2.out, by rw [Hid, HSP.out, bytes_append, bytes_append]; simp, below_drewN hB _⟩
      case measure => simp [intOf]; omega
    · obtain rfl : k = l.length := by omega
      have hsp' := hsp.out
      rw [List.drop_length, Lx.spliceOut] at hsp'
      have hsz : (s.extract q.toNat s.size).size ≤ 2500 := by rw [ByteArray.size_extract]; omega
      have ad1 : ∀ W : World, (Op.stringOp .add out (s.extract q.toNat s.size)).run Tryd.prog W = .ok (.string (out ++ s.extract q.toNat s.size)) W := fun W => run_string_add_sum (w := W) _ _ (by omega)
      have HV : Hid (out ++ s.extract q.toNat s.size = ⟨R.toArray⟩) := bytes_eq (by rw [bytes_append, hsp'])
      clear hsp hsp' hrf
      go_wp2
      go_ret
      exact ⟨by rw [← HV.out]; rfl, hB⟩

set_option maxRecDepth 100000 in
set_option maxHeartbeats 4000000 in
theorem refApply_any (s : ByteArray) (l : List Lx.Spl) (A : Option Addr) (c : Nat) (w : World) (hz : s.size ≤ 281474976710656) (hl : l.length ≤ 1152921504606846976) (ht : ∀ x ∈ l, x.text.size ≤ 1099511627776) (hS : Spls w w.heap.size A l) :
    Calls Tryd.prog 36 #[.string s, .slice A l.length c] w fun e w' => e = .returned (.tuple #[.string (Lx.applyOf s l).1, .int .i64 ((Lx.applyOf s l).2 : Int)]) ∧ Below w.heap.size w w' := by
  have HC := Lib.hid (refCheck_any s l A c w hz hl ht hS)
  by_cases h0 : (Lx.changesOf s l).2 ≠ 0
  · rw [Lx.applyOf, if_pos h0]
    have h0' : (((Lx.changesOf s l).2 : Int) != 0) = true := by rw [bne_iff_ne]; omega
    generalize (Lx.changesOf s l).2 = er at *
    clear h0 ht hS
    go_enter Tryd.func36, Tryd.ntmps36
    go_wp2_with (go_at_call 67; refine HC.out.mono ?_; rintro e w1 ⟨rfl, hB1⟩)
    go_ret2
    exact ⟨rfl, hB1⟩
  · have h0 : (Lx.changesOf s l).2 = 0 := by omega
    obtain ⟨hL, hte, h40, hr, _, _⟩ := Lx.changesOf_ok h0
    have hsm := Lx.textErr_le hte
    rw [Lx.applyOf, if_neg (by omega)]
    have HP := Lib.hid (fun W hW => refSpliced_any s l A c W hsm h40 hr ht hW)
    have HS := Lib.hid hS
    rw [h0] at HC
    generalize Lx.spliceOut s 0 l = R at *
    clear h0 hL hte hr ht hS
    go_enter Tryd.func36, Tryd.ntmps36
    go_wp2_with (first
      | (go_at_call 67; refine HC.out.mono ?_; rintro e w1 ⟨rfl, hB1⟩)
      | (go_at_call 68; refine (HP.out w1 (fun hn => by obtain ⟨b, off, h1, h2, h3⟩ := HS.out.below hB1 hn; exact ⟨b, off, h1, Nat.lt_of_lt_of_le h2 hB1.size, h3⟩)).mono ?_; rintro e w2 ⟨rfl, hB2⟩))
    go_ret2
    exact ⟨rfl, hB1.trans (hB2.mono hB1.size)⟩

set_option maxRecDepth 100000 in
set_option maxHeartbeats 4000000 in
theorem refMoved_any (s : ByteArray) (l : List Lx.Spl) (p : Int) (A : Option Addr) (c : Nat) (w : World) (hz : s.size ≤ 281474976710656) (hl : l.length ≤ 1152921504606846976) (ht : ∀ x ∈ l, x.text.size ≤ 1099511627776) (hS : Spls w w.heap.size A l) :
    Calls Tryd.prog 38 #[.string s, .slice A l.length c, .int .i64 p] w (NumRet (Lx.movedOf s l p) w) := by
  have HC := Lib.hid (refCheck_any s l A c w hz hl ht hS)
  obtain ⟨R, hR⟩ : ∃ R, Lx.movedOf s l p = R := ⟨_, rfl⟩
  rw [hR]
  by_cases h0 : (Lx.changesOf s l).2 ≠ 0
  · rw [Lx.movedOf, if_pos h0] at hR
    have h0' : (((Lx.changesOf s l).2 : Int) != 0) = true := by rw [bne_iff_ne]; omega
    generalize (Lx.changesOf s l).2 = er at *
    have HV := Lib.hid hR.symm
    clear h0 ht hS hR
    go_enter Tryd.func38, Tryd.ntmps38
    go_wp2_with (go_at_call 67; refine HC.out.mono ?_; rintro e w1 ⟨rfl, hB1⟩)
    go_ret2
    exact numRet HV.out rfl hB1
  · have h0 : (Lx.changesOf s l).2 = 0 := by omega
    obtain ⟨hL, hte, h40, hr, _, _⟩ := Lx.changesOf_ok h0
    have hsm := Lx.textErr_le hte
    have HV := Lib.hid hR.symm
    have HMR := Lib.hid (fun h1 h2 => Lx.movedOf_ref (p := p) h0 h1 h2)
    have HA := Lib.hid (Lx.rightFrom_all hr)
    rw [h0] at HC
    have HS := Lib.hid hS; have HT := Lib.hid ht; have H0 := Lib.hid h0
    clear h0 hL hte hR hr ht hS
    by_cases hp : p < 0 ∨ (s.size : Int) < p
    · have HV2 : Hid (R = (0, 3)) := by rw [Hid, HV.out, Lx.movedOf, if_neg (by rw [H0.out]; simp), if_pos hp]
      have hd : (p < 0) ∨ (0 ≤ p ∧ (s.size : Int) < p) := by omega
      clear hp HV
      rcases hd with hd | ⟨hd, hd2⟩
      all_goals
        go_enter Tryd.func38, Tryd.ntmps38
        go_wp2_with (go_at_call 67; refine HC.out.mono ?_; rintro e w1 ⟨rfl, hB1⟩)
        go_ret2
        exact numRet HV2.out rfl hB1
    · have hq0 : 0 ≤ p := by omega
      have hq1 : p ≤ (s.size : Int) := by omega
      have HV2 : Hid (R = Lx.refMoved s p 0 l) := by rw [Hid, HV.out, HMR.out hq0 hq1]
      clear hp HV HMR
      go_enter Tryd.func38, Tryd.ntmps38
      go_wp2_with (go_at_call 67; refine HC.out.mono ?_; rintro e w1 ⟨rfl, hB1⟩)
      go_loopw [9, 10] (fun m i wr => ∃ (k : Nat) (g : Int), k ≤ l.length ∧ i = .int .i64 k ∧ m = .int .i64 g ∧ -(2500 * k) ≤ g ∧ g ≤ 1099511627776 * k ∧ Hid (R = Lx.refMoved s p g (l.drop k)) ∧ Below w.heap.size w wr) (fun _ i _ => l.length - (intOf i).toNat)
      case atStart => exact ⟨0, 0, Nat.zero_le _, rfl, rfl, by simp, by simp, HV2.out, hB1⟩
      case round =>
        obtain ⟨k, g, hk, rfl, rfl, hg0, hg1, hsc, hB⟩ := hrel
        by_cases hlt : k < l.length
        · obtain ⟨b, off, rfl, hbB, hc⟩ := HS.out.below hB (by intro e; subst e; simp at hlt)
          obtain ⟨x, hx⟩ : ∃ x, l[k]? = some x := ⟨_, List.getElem?_eq_getElem hlt⟩
          have hxm : x ∈ l := List.mem_of_getElem? hx
          obtain ⟨e1, e2, e3⟩ := hc k x hx
          obtain ⟨a1, a2, a3⟩ := HA.out x hxm
          have htx := HT.out x hxm
          have hgb := Lx.growBy_bounds s x htx hsm
          have hos := Lx.outOf_size (s := s) (x := x) a1 a2 a3
          have hgw : Lx.growBy s x = (x.text.size : Int) - (x.hi - x.lo) := by rw [Lx.growBy, hos]
          have hd := Lx.drop_of_get hx
          have hsc' := hsc.out
          rw [hd, Lx.refMoved] at hsc'
          have HG := Lib.hid hgw
          clear hd hx hxm hc hos hsc hgw
          by_cases hin : x.lo ≤ p ∧ p < x.hi
          · rw [if_pos hin] at hsc'
            have HX := Lib.hid hsc'
            obtain ⟨b1, b2⟩ := hin
            have q1 : decide (x.lo ≤ p) = true := decide_eq_true b1
            have q2 : decide (p < x.hi) = true := decide_eq_true b2
            clear hsc'
            go_wp2
            go_ret2
            exact numRet HX.out rfl hB
          · rw [if_neg hin] at hsc'
            by_cases hbe : x.hi ≤ p
            · rw [if_pos hbe] at hsc'
              have HX := Lib.hid hsc'
              have b1 : x.lo ≤ p := by omega
              have b2 : ¬ p < x.hi := by omega
              have q1 : decide (x.lo ≤ p) = true := decide_eq_true b1
              have q2 : decide (p < x.hi) = false := decide_eq_false b2
              clear hsc' hin
              go_wp2
              go_quiet (fail)
              go_wp2
              go_roundw
              case rel => exact ⟨k + 1, g + Lx.growBy s x, by omega, by go_num, by rw [HG.out], by omega, by omega, HX.out, below_drewN hB _⟩
              case measure => simp [intOf]; omega
            · rw [if_neg hbe] at hsc'
              have HX := Lib.hid hsc'
              have b1 : ¬ x.lo ≤ p := by omega
              have q1 : decide (x.lo ≤ p) = false := decide_eq_false b1
              clear hsc' hin
              go_wp2
              go_roundw
              case rel => exact ⟨k + 1, g, by omega, by go_num, rfl, by omega, by omega, HX.out, hB⟩
              case measure => simp [intOf]; omega
        · obtain rfl : k = l.length := by omega
          have hsc' := hsc.out
          rw [List.drop_length, Lx.refMoved] at hsc'
          have HX := Lib.hid hsc'
          clear hsc hsc'
          go_wp2
          go_ret2
          exact numRet HX.out rfl hB
end Go.Proofs.YtlkhlemafkfcbaaDoor
