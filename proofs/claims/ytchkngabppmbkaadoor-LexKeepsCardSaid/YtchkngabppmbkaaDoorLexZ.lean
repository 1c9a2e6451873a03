/-
  WALKS: the reference's splices: their error, the text behind them.
-/
import Derived.Test.YtchkngabppmbkaaDoorLexR
import Derived.Test.YtchkngabppmbkaaDoorLexV
import Derived.Test.YtchkngabppmbkaaDoorLexX
import Derived.Test.YtchkngabppmbkaaDoorSpecK
namespace Go.Proofs.YtchkngabppmbkaaDoor
open Go.RowKit

theorem grow_bounds {s : ByteArray} (hs : s.size ≤ 2500) : ∀ {l : List Lx.Spl} {g : Int}, (∀ x ∈ l, x.text.size ≤ 1099511627776) → g - 2500 * (l.length : Int) ≤ Lx.grow s g l ∧ Lx.grow s g l ≤ g + 1099511627776 * (l.length : Int)
  | [], g, _ => by simp [Lx.grow]
  | x :: xs, g, ht => by
    have h1 := Lx.growBy_bounds s x (ht x (.head _)) hs
    have h2 := grow_bounds hs (l := xs) (g := g + Lx.growBy s x) (fun y hy => ht y (.tail _ hy))
    rw [Lx.grow, List.length_cons]
    omega

set_option maxRecDepth 100000 in
set_option maxHeartbeats 4000000 in
theorem refSplicesError_any (s : ByteArray) (l : List Lx.Spl) (A : Option Addr) (c : Nat) (w : World) (h0 : (Lx.textErr s).2 = 0) (hl : l.length ≤ 1152921504606846976) (ht : ∀ x ∈ l, x.text.size ≤ 1099511627776) (hS : Spls w w.heap.size A l) :
    Calls Tryd.prog 90 #[.string s, .slice A l.length c] w fun e w' => e = .returned (.int .i64 ((Lx.changesOf s l).2 : Int)) ∧ Below w.heap.size w w' := by
  have hsm := Lx.textErr_le h0
  obtain ⟨R, hR⟩ : ∃ R, (Lx.changesOf s l).2 = R := ⟨_, rfl⟩
  rw [hR]
  unfold Lx.changesOf at hR
  rw [if_neg (by omega)] at hR
  have HR := Lib.hid hR
  have HS := Lib.hid hS
  have HT := Lib.hid ht
  have HI := Lib.hid isByte_any
  clear hR hS ht h0
  by_cases h40 : 40 < l.length
  · have HV : Hid (R = 5) := by rw [Hid, ← HR.out, if_pos h40]
    have d1 : decide ((l.length : Int) > 40) = true := decide_eq_true (by omega)
    go_enter Tryd.func90, Tryd.ntmps90
    go_wp2
    go_ret
    exact ⟨by rw [HV.out]; rfl, Below.refl _ _⟩
  · have HR2 : Hid ((if Lx.rightFrom s.size 0 l = false then (([], 3) : List Lx.Chg × Nat) else if l.any Lx.badText = true then ([], 2) else if 2500 < s.size + Lx.grow s 0 l then ([], 5) else (Lx.chgs s 0 l, 0)).2 = R) := by have := HR.out; rw [if_neg h40] at this; exact this
    have d1 : decide ((l.length : Int) > 40) = false := decide_eq_false (by omega)
    clear HR
    go_enter Tryd.func90, Tryd.ntmps90
    go_wp2
    obtain ⟨r, hr⟩ : ∃ r, Lx.rightFrom s.size 0 l = r := ⟨_, rfl⟩
    have Hr := Lib.hid hr; clear hr
    go_loopw [5, 6] (fun d i wr => ∃ (k : Nat) (q : Int), k ≤ l.length ∧ i = .int .i64 k ∧ d = .int .i64 q ∧ Hid (Lx.rightFrom s.size q (l.drop k) = r) ∧ Below w.heap.size w wr) (fun _ i _ => l.length - (intOf i).toNat)
    case atStart => exact ⟨0, 0, Nat.zero_le _, rfl, rfl, Hr.out, Below.refl _ _⟩
    case round =>
      obtain ⟨k, q, hk, rfl, rfl, hn, hB⟩ := hrel
      by_cases hlt : k < l.length
      · obtain ⟨b, off, rfl, hbB, hc⟩ := HS.out.below hB (by intro e; subst e; simp at hlt)
        obtain ⟨x, hx⟩ : ∃ x, l[k]? = some x := ⟨_, List.getElem?_eq_getElem hlt⟩
        obtain ⟨e1, e2, e3⟩ := hc k x hx
        have hd := Lx.drop_of_get hx
        have hn' := hn.out
        rw [hd, rightFrom_cons] at hn'
        have hV : ∀ b : Bool, (decide (x.lo < q) || decide (x.hi < x.lo) || decide ((s.size : Int) < x.hi)) = true → R = 3 := fun _ hb => by
          rw [hb] at hn'
          have hrf : r = false := hn'.symm
          have := HR2.out
          rw [Hr.out, hrf, if_pos rfl] at this
          exact this.symm
        have HV := Lib.hid (hV true)
        have HN := Lib.hid hn'
        clear hV hn' hn hd hx hc
        by_cases c0 : x.lo < q
        · have HV2 := Lib.hid (HV.out (by rw [decide_eq_true c0]; rfl))
          have q0 : decide (x.lo < q) = true := decide_eq_true c0
          go_wp2
          go_quiet (fail)
          go_wp2
          go_ret
          exact ⟨by rw [HV2.out]; rfl, below_drewN hB _⟩
        · have q0 : decide (x.lo < q) = false := decide_eq_false c0
          by_cases c1 : x.hi < x.lo
          · have HV2 := Lib.hid (HV.out (by rw [decide_eq_true c1, Bool.or_true]; rfl))
            have q1 : decide (x.hi < x.lo) = true := decide_eq_true c1
            go_wp2
            go_quiet (fail)
            go_wp2
            go_ret
            exact ⟨by rw [HV2.out]; rfl, below_drewN hB _⟩
          · have q1 : decide (x.hi < x.lo) = false := decide_eq_false c1
            by_cases c2 : (s.size : Int) < x.hi
            · have HV2 := Lib.hid (HV.out (by rw [decide_eq_true c2, Bool.or_true]))
              have q2 : decide (x.hi > (s.size : Int)) = true := decide_eq_true c2
              go_wp2
              go_quiet (fail)
              go_wp2
              go_ret
              exact ⟨by rw [HV2.out]; rfl, below_drewN hB _⟩
            · have q2 : decide (x.hi > (s.size : Int)) = false := decide_eq_false c2
              have HN2 : Hid (Lx.rightFrom s.size x.hi (l.drop (k + 1)) = r) := by
                have := HN.out
                rw [decide_eq_false c0, decide_eq_false c1, decide_eq_false c2] at this
                exact this
              go_wp2
              go_quiet (fail)
              go_wp2
              go_roundw
              case rel => exact ⟨k + 1, x.hi, by omega, by go_num, rfl, HN2.out, below_drewN hB _⟩
              case measure => simp [intOf]; omega
      · obtain rfl : k = l.length := by omega
        have hrt : r = true := by
          have := hn.out
          rw [List.drop_length] at this
          exact this.symm
        subst hrt
        have HA := Lib.hid (Lx.rightFrom_all Hr.out)
        have HR3 : Hid ((if l.any Lx.badText = true then (([], 2) : List Lx.Chg × Nat) else if 2500 < s.size + Lx.grow s 0 l then ([], 5) else (Lx.chgs s 0 l, 0)).2 = R) := by
          have := HR2.out
          rw [Hr.out, if_neg (by simp)] at this
          exact this
        clear HR2 hn
        go_wp2
        have hB0 := hB
        have hsz0 := hB.size
        obtain ⟨wo, hwo⟩ : ∃ wo : World, wr = wo := ⟨_, rfl⟩
        subst hwo
        go_loopw [7, 8] (fun d i w2 => ∃ (k : Nat) (g : Int), k ≤ l.length ∧ i = .int .i64 k ∧ d = .int .i64 g ∧ -(2500 * k) ≤ g ∧ g ≤ 1099511627776 * k ∧ Hid (Lx.grow s 0 l = Lx.grow s g (l.drop k)) ∧ Hid (l.any Lx.badText = (l.drop k).any Lx.badText) ∧ Below w.heap.size w w2) (fun _ i _ => l.length - (intOf i).toNat)
        case atStart => exact ⟨0, 0, Nat.zero_le _, rfl, rfl, by simp, by simp, rfl, rfl, hB0⟩
        case round =>
          obtain ⟨k, g, hk, rfl, rfl, hg0, hg1, hgr, hbd, hB⟩ := hrel
          by_cases hlt : k < l.length
          · obtain ⟨b, off, rfl, hbB, hc⟩ := HS.out.below hB (by intro e; subst e; simp at hlt)
            obtain ⟨x, hx⟩ : ∃ x, l[k]? = some x := ⟨_, List.getElem?_eq_getElem hlt⟩
            have hxm : x ∈ l := List.mem_of_getElem? hx
            obtain ⟨e1, e2, e3⟩ := hc k x hx
            obtain ⟨a1, a2, a3⟩ := HA.out x hxm
            have htx := HT.out x hxm
            have hgb := Lx.growBy_bounds s x htx hsm
            have hd := Lx.drop_of_get hx
            have hgr' := hgr.out; have hbd' := hbd.out
            rw [hd, Lx.grow] at hgr'
            rw [hd, List.any_cons] at hbd'
            have hos := Lx.outOf_size (s := s) (x := x) a1 a2 a3
            have hgw : Lx.growBy s x = (x.text.size : Int) - (x.hi - x.lo) := by rw [Lx.growBy, hos]
            have HGR := Lib.hid hgr'; have HBD := Lib.hid hbd'
            obtain ⟨E, hE⟩ : ∃ E, Lx.runEnd Lx.isText x.text 0 = E := ⟨_, rfl⟩
            have hEle : E ≤ x.text.size := hE ▸ Lx.runEnd_le (Nat.zero_le _)
            have HE := Lib.hid hE
            have hBT : Hid (Lx.badText x = decide (E < x.text.size)) := by rw [Hid, Lx.badText, hE]
            clear hgr hbd hgr' hbd' hd hx hxm hc hos hE
            go_wp2
            go_loop [9] (fun i => ∃ j : Nat, j ≤ x.text.size ∧ i = .int .i64 j ∧ Hid (Lx.runEnd Lx.isText x.text j = E)) (fun i => x.text.size - (intOf i).toNat)
            case atStart => exact ⟨0, Nat.zero_le _, rfl, HE.out⟩
            case round =>
              obtain ⟨j, hj, rfl, hn⟩ := hrel
              by_cases hjl : j < x.text.size
              · have HST := Lib.hid (@Lx.runEnd_step Lx.isText x.text j hjl)
                have HSP := Lib.hid (@Lx.runEnd_stop Lx.isText x.text j hjl)
                have HC := Lib.hid (HI.out x.text[j])
                cases hpk : Lx.isText x.text[j]
                · rw [hpk] at HC
                  have HK := Lib.hid hpk; clear hpk
                  obtain rfl : j = E := (HSP.out HK.out).symm.trans hn.out
                  have HV2 : Hid (R = 2) := by
                    have := HR3.out
                    rw [HBD.out, hBT.out, decide_eq_true hjl, Bool.true_or, if_pos rfl] at this
                    exact this.symm
                  go_wp2_with (go_at_call 84; refine (HC.out _).mono ?_; rintro e w' ⟨rfl, rfl⟩)
                  go_ret
                  exact ⟨by rw [HV2.out]; rfl, hB⟩
                · rw [hpk] at HC
                  have HK := Lib.hid hpk; clear hpk
                  go_wp2_with (go_at_call 84; refine (HC.out _).mono ?_; rintro e w' ⟨rfl, rfl⟩)
                  go_round
                  case rel => exact ⟨j + 1, by omega, by go_num, by rw [Hid, ← HST.out HK.out]; exact hn.out⟩
                  case measure => simp [intOf]; omega
              · obtain rfl : j = x.text.size := by omega
                have hE2 : ¬ E < x.text.size := by
                  have := hn.out
                  rw [Lx.runEnd_end (Nat.le_refl _)] at this
                  omega
                have HBD2 : Hid (l.any Lx.badText = (l.drop (k + 1)).any Lx.badText) := by
                  have := HBD.out
                  rw [hBT.out, decide_eq_false hE2, Bool.false_or] at this
                  exact this
                clear hn
                go_wp2
                go_quiet (fail)
                go_wp2
                go_roundw
                case rel => exact ⟨k + 1, g + Lx.growBy s x, by omega, by go_num, by rw [hgw], by omega, by omega, HGR.out, HBD2.out, below_drewN hB _⟩
                case measure => simp [intOf]; omega
          · obtain rfl : k = l.length := by omega
            have hgr' := hgr.out; have hbd' := hbd.out
            rw [List.drop_length] at hgr' hbd'
            have hgg : Lx.grow s 0 l = g := hgr'
            have HR4 := HR3.out
            rw [if_neg (by rw [hbd']; simp), hgg] at HR4
            clear hgr hbd hgr' hbd' hgg
            by_cases hbig : 2500 < (s.size : Int) + g
            · rw [if_pos hbig] at HR4
              have HV := Lib.hid HR4.symm
              clear HR4
              have q2 : decide ((s.size : Int) + g > 2500) = true := decide_eq_true hbig
              go_wp2
              go_ret
              exact ⟨by rw [HV.out]; rfl, hB⟩
            · rw [if_neg hbig] at HR4
              have HV := Lib.hid HR4.symm
              clear HR4
              have q2 : decide ((s.size : Int) + g > 2500) = false := decide_eq_false hbig
              go_wp2
              go_ret
              exact ⟨by rw [HV.out]; rfl, hB⟩

set_option maxRecDepth 100000 in
set_option maxHeartbeats 4000000 in
theorem refCheck_any (s : ByteArray) (l : List Lx.Spl) (A : Option Addr) (c : Nat) (w : World) (hz : s.size ≤ 281474976710656) (hl : l.length ≤ 1152921504606846976) (ht : ∀ x ∈ l, x.text.size ≤ 1099511627776) (hS : Spls w w.heap.size A l) :
    Calls Tryd.prog 67 #[.string s, .slice A l.length c] w fun e w' => e = .returned (.int .i64 ((Lx.changesOf s l).2 : Int)) ∧ Below w.heap.size w w' := by
  have HT := Lib.hid (fun W => refTextError_any s W (by omega))
  by_cases h0 : (Lx.textErr s).2 ≠ 0
  · have HV : Hid ((Lx.changesOf s l).2 = (Lx.textErr s).2) := by rw [Hid, Lx.changesOf, if_pos h0]
    have h0' : (((Lx.textErr s).2 : Int) != 0) = true := by rw [bne_iff_ne]; omega
    clear ht hS h0
    go_enter Tryd.func67, Tryd.ntmps67
    go_wp2_with (go_at_call 51; refine (HT.out _).mono ?_; rintro e w1 ⟨rfl, rfl⟩)
    go_ret
    exact ⟨by rw [HV.out]; rfl, Below.refl _ _⟩
  · have h0 : (Lx.textErr s).2 = 0 := by omega
    have HE := Lib.hid (refSplicesError_any s l A c w h0 hl ht hS)
    rw [h0] at HT
    clear ht hS h0
    generalize (Lx.changesOf s l).2 = R at *
    go_enter Tryd.func67, Tryd.ntmps67
    go_wp2_with (first
      | (go_at_call 51; refine (HT.out _).mono ?_; rintro e w1 ⟨rfl, rfl⟩)
      | (go_at_call 90; refine HE.out.mono ?_; rintro e w1 ⟨rfl, hB1⟩))
    go_ret
    exact ⟨rfl, hB1⟩
end Go.Proofs.YtchkngabppmbkaaDoor

/-
  WALKS: the reference's Spliced, Apply, Moved, Undo.
-/
namespace Go.Proofs.YtchkngabppmbkaaDoor
open Go.RowKit

theorem bytes_append (a b : ByteArray) : (a ++ b).data.toList = a.data.toList ++ b.data.toList := by simp
theorem bytes_eq {a : ByteArray} {l : List UInt8} (h : a.data.toList = l) : a = ⟨l.toArray⟩ := by
  apply ByteArray.ext; apply Array.toList_inj.1; simpa using h

set_option maxRecDepth 100000 in
set_option maxHeartbeats 4000000 in
theorem refSpliced_any (s : ByteArray) (l : List Lx.Spl) (A : Option Addr) (c : Nat) (w : World) (hz : s.size ≤ 2500) (h40 : l.length ≤ 40) (hr : Lx.rightFrom s.size 0 l = true) (ht : ∀ x ∈ l, x.text.size ≤ 1099511627776) (hS : Spls w w.heap.size A l) :
    Calls Tryd.prog 68 #[.string s, .slice A l.length c] w fun e w' => e = .returned (.string ⟨(Lx.spliceOut s 0 l).toArray⟩) ∧ Below w.heap.size w w' := by
  obtain ⟨R, hR⟩ : ∃ R, Lx.spliceOut s 0 l = R := ⟨_, rfl⟩
  rw [hR]
  have HR := Lib.hid hR; have Hr := Lib.hid hr; have HT := Lib.hid ht; have HS := Lib.hid hS
  clear hR hr ht hS
  go_enter Tryd.func68, Tryd.ntmps68
  go_wp2
  go_loopw [5, 6, 7] (fun o d i wr => ∃ (k : Nat) (q : Int) (out : ByteArray), k ≤ l.length ∧ i = .int .i64 k ∧ d = .int .i64 q ∧ o = .string out ∧ 0 ≤ q ∧ q ≤ s.size ∧ out.size ≤ k * 1099511640000 ∧ Hid (Lx.rightFrom s.size q (l.drop k) = true) ∧ Hid (R = out.data.toList ++ Lx.spliceOut s q (l.drop k)) ∧ Below w.heap.size w wr) (fun _ _ i _ => l.length - (intOf i).toNat)
  case atStart => exact ⟨0, 0, ⟨#[]⟩, Nat.zero_le _, rfl, rfl, rfl, by omega, by omega, by simp [ByteArray.size], Hr.out, by rw [Hid, ← HR.out]; rfl, Below.refl _ _⟩
  case round =>
    obtain ⟨k, q, out, hk, rfl, rfl, rfl, hq0, hq1, hos, hrf, hsp, hB⟩ := hrel
    by_cases hlt : k < l.length
    · obtain ⟨b, off, rfl, hbB, hc⟩ := HS.out.below hB (by intro e; subst e; simp at hlt)
      obtain ⟨x, hx⟩ : ∃ x, l[k]? = some x := ⟨_, List.getElem?_eq_getElem hlt⟩
      have htx := HT.out x (List.mem_of_getElem? hx)
      obtain ⟨e1, e2, e3⟩ := hc k x hx
      have hd := Lx.drop_of_get hx
      have hrf' := hrf.out
      rw [hd] at hrf'
      have ha := Lx.rightFrom_all hrf' x (by simp)
      rw [rightFrom_cons] at hrf'
      simp only [Bool.and_eq_true] at hrf'
      have HRF2 := Lib.hid hrf'.2
      have hsp' := hsp.out
      rw [hd, Lx.spliceOut] at hsp'
      have HSP := Lib.hid hsp'
      have hsz : (s.extract q.toNat x.lo.toNat).size ≤ 2500 := by rw [ByteArray.size_extract]; omega
      have ad1 : ∀ W : World, (Op.stringOp .add (s.extract q.toNat x.lo.toNat) x.text).run Tryd.prog W = .ok (.string (s.extract q.toNat x.lo.toNat ++ x.text)) W := fun W => run_string_add_sum (w := W) _ _ (by omega)
      have hs2 : (s.extract q.toNat x.lo.toNat ++ x.text).size ≤ 1099511640000 := by rw [ByteArray.size_append]; omega
      have ad2 : ∀ W : World, (Op.stringOp .add out (s.extract q.toNat x.lo.toNat ++ x.text)).run Tryd.prog W = .ok (.string (out ++ (s.extract q.toNat x.lo.toNat ++ x.text))) W := fun W => run_string_add_sum (w := W) _ _ (by omega)
      have hs3 : (out ++ (s.extract q.toNat x.lo.toNat ++ x.text)).size ≤ (k + 1) * 1099511640000 := by rw [ByteArray.size_append]; omega
      have HZ := Lib.hid hs3
      have hl0 := ha.1; have hl1 := ha.2.1; have hl2 := ha.2.2
      clear hrf hrf' hsp hsp' hd hx hc ha hs3
      go_wp2
      go_quiet (fail)
      go_wp2
      go_roundw
      case rel => exact ⟨k + 1, x.hi, _, by omega, by go_num, rfl, rfl, by omega, by omega, HZ.out, HRF2.out, by rw [Hid, HSP.out, bytes_append, bytes_append]; simp, below_drewN hB _⟩
      case measure => simp [intOf]; omega
    · obtain rfl : k = l.length := by omega
      have hsp' := hsp.out
      rw [List.drop_length, Lx.spliceOut] at hsp'
      have hsz : (s.extract q.toNat s.size).size ≤ 2500 := by rw [ByteArray.size_extract]; omega
      have ad1 : ∀ W : World, (Op.stringOp .add out (s.extract q.toNat s.size)).run Tryd.prog W = .ok (.string (out ++ s.extract q.toNat s.size)) W := fun W => run_string_add_sum (w := W) _ _ (by omega)
      have HV : Hid (out ++ s.extract q.toNat s.size = ⟨R.toArray⟩) := bytes_eq (by rw [bytes_append, hsp'])
      clear hsp hsp' hrf
      go_wp2
      go_ret
      exact ⟨by rw [← HV.out]; rfl, hB⟩

set_option maxRecDepth 100000 in
set_option maxHeartbeats 4000000 in
theorem refApply_any (s : ByteArray) (l : List Lx.Spl) (A : Option Addr) (c : Nat) (w : World) (hz : s.size ≤ 281474976710656) (hl : l.length ≤ 1152921504606846976) (ht : ∀ x ∈ l, x.text.size ≤ 1099511627776) (hS : Spls w w.heap.size A l) :
    Calls Tryd.prog 36 #[.string s, .slice A l.length c] w fun e w' => e = .returned (.tuple #[.string (Lx.applyOf s l).1, .int .i64 ((Lx.applyOf s l).2 : Int)]) ∧ Below w.heap.size w w' := by
  have HC := Lib.hid (refCheck_any s l A c w hz hl ht hS)
  by_cases h0 : (Lx.changesOf s l).2 ≠ 0
  · rw [Lx.applyOf, if_pos h0]
    have h0' : (((Lx.changesOf s l).2 : Int) != 0) = true := by rw [bne_iff_ne]; omega
    generalize (Lx.changesOf s l).2 = er at *
    clear h0 ht hS
    go_enter Tryd.func36, Tryd.ntmps36
    go_wp2_with (go_at_call 67; refine HC.out.mono ?_; rintro e w1 ⟨rfl, hB1⟩)
    go_ret2
    exact ⟨rfl, hB1⟩
  · have h0 : (Lx.changesOf s l).2 = 0 := by omega
    obtain ⟨hL, hte, h40, hr, _, _⟩ := Lx.changesOf_ok h0
    have hsm := Lx.textErr_le hte
    rw [Lx.applyOf, if_neg (by omega)]
    have HP := Lib.hid (fun W hW => refSpliced_any s l A c W hsm h40 hr ht hW)
    have HS := Lib.hid hS
    rw [h0] at HC
    generalize Lx.spliceOut s 0 l = R at *
    clear h0 hL hte hr ht hS
    go_enter Tryd.func36, Tryd.ntmps36
    go_wp2_with (first
      | (go_at_call 67; refine HC.out.mono ?_; rintro e w1 ⟨rfl, hB1⟩)
      | (go_at_call 68; refine (HP.out w1 (fun hn => by obtain ⟨b, off, h1, h2, h3⟩ := HS.out.below hB1 hn; exact ⟨b, off, h1, Nat.lt_of_lt_of_le h2 hB1.size, h3⟩)).mono ?_; rintro e w2 ⟨rfl, hB2⟩))
    go_ret2
    exact ⟨rfl, hB1.trans (hB2.mono hB1.size)⟩

set_option maxRecDepth 100000 in
set_option maxHeartbeats 4000000 in
theorem refMoved_any (s : ByteArray) (l : List Lx.Spl) (p : Int) (A : Option Addr) (c : Nat) (w : World) (hz : s.size ≤ 281474976710656) (hl : l.length ≤ 1152921504606846976) (ht : ∀ x ∈ l, x.text.size ≤ 1099511627776) (hS : Spls w w.heap.size A l) :
    Calls Tryd.prog 38 #[.string s, .slice A l.length c, .int .i64 p] w (NumRet (Lx.movedOf s l p) w) := by
  have HC := Lib.hid (refCheck_any s l A c w hz hl ht hS)
  obtain ⟨R, hR⟩ : ∃ R, Lx.movedOf s l p = R := ⟨_, rfl⟩
  rw [hR]
  by_cases h0 : (Lx.changesOf s l).2 ≠ 0
  · rw [Lx.movedOf, if_pos h0] at hR
    have h0' : (((Lx.changesOf s l).2 : Int) != 0) = true := by rw [bne_iff_ne]; omega
    generalize (Lx.changesOf s l).2 = er at *
    have HV := Lib.hid hR.symm
    clear h0 ht hS hR
    go_enter Tryd.func38, Tryd.ntmps38
    go_wp2_with (go_at_call 67; refine HC.out.mono ?_; rintro e w1 ⟨rfl, hB1⟩)
    go_ret2
    exact numRet HV.out rfl hB1
  · have h0 : (Lx.changesOf s l).2 = 0 := by omega
    obtain ⟨hL, hte, h40, hr, _, _⟩ := Lx.changesOf_ok h0
    have hsm := Lx.textErr_le hte
    have HV := Lib.hid hR.symm
    have HMR := Lib.hid (fun h1 h2 => Lx.movedOf_ref (p := p) h0 h1 h2)
    have HA := Lib.hid (Lx.rightFrom_all hr)
    rw [h0] at HC
    have HS := Lib.hid hS; have HT := Lib.hid ht; have H0 := Lib.hid h0
    clear h0 hL hte hR hr ht hS
    by_cases hp : p < 0 ∨ (s.size : Int) < p
    · have HV2 : Hid (R = (0, 3)) := by rw [Hid, HV.out, Lx.movedOf, if_neg (by rw [H0.out]; simp), if_pos hp]
      have hd : (p < 0) ∨ (0 ≤ p ∧ (s.size : Int) < p) := by omega
      clear hp HV
      rcases hd with hd | ⟨hd, hd2⟩
      all_goals
        go_enter Tryd.func38, Tryd.ntmps38
        go_wp2_with (go_at_call 67; refine HC.out.mono ?_; rintro e w1 ⟨rfl, hB1⟩)
        go_ret2
        exact numRet HV2.out rfl hB1
    · have hq0 : 0 ≤ p := by omega
      have hq1 : p ≤ (s.size : Int) := by omega
      have HV2 : Hid (R = Lx.refMoved s p 0 l) := by rw [Hid, HV.out, HMR.out hq0 hq1]
      clear hp HV HMR
      go_enter Tryd.func38, Tryd.ntmps38
      go_wp2_with (go_at_call 67; refine HC.out.mono ?_; rintro e w1 ⟨rfl, hB1⟩)
      go_loopw [9, 10] (fun m i wr => ∃ (k : Nat) (g : Int), k ≤ l.length ∧ i = .int .i64 k ∧ m = .int .i64 g ∧ -(2500 * k) ≤ g ∧ g ≤ 1099511627776 * k ∧ Hid (R = Lx.refMoved s p g (l.drop k)) ∧ Below w.heap.size w wr) (fun _ i _ => l.length - (intOf i).toNat)
      case atStart => exact ⟨0, 0, Nat.zero_le _, rfl, rfl, by simp, by simp, HV2.out, hB1⟩
      case round =>
        obtain ⟨k, g, hk, rfl, rfl, hg0, hg1, hsc, hB⟩ := hrel
        by_cases hlt : k < l.length
        · obtain ⟨b, off, rfl, hbB, hc⟩ := HS.out.below hB (by intro e; subst e; simp at hlt)
          obtain ⟨x, hx⟩ : ∃ x, l[k]? = some x := ⟨_, List.getElem?_eq_getElem hlt⟩
          have hxm : x ∈ l := List.mem_of_getElem? hx
          obtain ⟨e1, e2, e3⟩ := hc k x hx
          obtain ⟨a1, a2, a3⟩ := HA.out x hxm
          have htx := HT.out x hxm
          have hgb := Lx.growBy_bounds s x htx hsm
          have hos := Lx.outOf_size (s := s) (x := x) a1 a2 a3
          have hgw : Lx.growBy s x = (x.text.size : Int) - (x.hi - x.lo) := by rw [Lx.growBy, hos]
          have hd := Lx.drop_of_get hx
          have hsc' := hsc.out
          rw [hd, Lx.refMoved] at hsc'
          have HG := Lib.hid hgw
          clear hd hx hxm hc hos hsc hgw
          by_cases hin : x.lo ≤ p ∧ p < x.hi
          · rw [if_pos hin] at hsc'
            have HX := Lib.hid hsc'
            obtain ⟨b1, b2⟩ := hin
            have q1 : decide (x.lo ≤ p) = true := decide_eq_true b1
            have q2 : decide (p < x.hi) = true := decide_eq_true b2
            clear hsc'
            go_wp2
            go_ret2
            exact numRet HX.out rfl hB
          · rw [if_neg hin] at hsc'
            by_cases hbe : x.hi ≤ p
            · rw [if_pos hbe] at hsc'
              have HX := Lib.hid hsc'
              have b1 : x.lo ≤ p := by omega
              have b2 : ¬ p < x.hi := by omega
              have q1 : decide (x.lo ≤ p) = true := decide_eq_true b1
              have q2 : decide (p < x.hi) = false := decide_eq_false b2
              clear hsc' hin
              go_wp2
              go_quiet (fail)
              go_wp2
              go_roundw
              case rel => exact ⟨k + 1, g + Lx.growBy s x, by omega, by go_num, by rw [HG.out], by omega, by omega, HX.out, below_drewN hB _⟩
              case measure => simp [intOf]; omega
            · rw [if_neg hbe] at hsc'
              have HX := Lib.hid hsc'
              have b1 : ¬ x.lo ≤ p := by omega
              have q1 : decide (x.lo ≤ p) = false := decide_eq_false b1
              clear hsc' hin
              go_wp2
              go_roundw
              case rel => exact ⟨k + 1, g, by omega, by go_num, rfl, by omega, by omega, HX.out, hB⟩
              case measure => simp [intOf]; omega
        · obtain rfl : k = l.length := by omega
          have hsc' := hsc.out
          rw [List.drop_length, Lx.refMoved] at hsc'
          have HX := Lib.hid hsc'
          clear hsc hsc'
          go_wp2
          go_ret2
          exact numRet HX.out rfl hB
end Go.Proofs.YtchkngabppmbkaaDoor
