/-
  WALKS: small functions of the reference and of lex on tokens: tokensError, apart, closing, opener.
-/
import Derived.Test.YtchkngabppmbkaaDoorLexZG
import Derived.Test.YtchkngabppmbkaaDoorLexZP
import Derived.Test.YtchkngabppmbkaaDoorLexZQ
import Derived.Deep.RegionHeld3
import Derived.Test.YtchkngabppmbkaaDoorSpecZ
import Derived.Test.YtchkngabppmbkaaDoorLexO
import Derived.Laws.OwnMore
import Derived.BigQuiet
import Derived.IntWalk
namespace Go.Proofs.YtchkngabppmbkaaDoor
open Go.RowKit

set_option maxRecDepth 100000 in
set_option maxHeartbeats 2000000 in
theorem refTokensError_any (l : List Lx.Tk) (A : Option Addr) (c : Nat) (w : World) (hl : l.length ≤ 1152921504606846976) (hz : ∀ x ∈ l, x.text.size ≤ 281474976710656) (hA : Tks w w.heap.size A l) :
    Calls Tryd.prog 62 #[.slice A l.length c] w fun e w' => e = .returned (.int .i64 (Lx.listErr l : Int)) ∧ Below w.heap.size w w' := by
  obtain ⟨R, hR⟩ : ∃ R, Lx.listErr l = R := ⟨_, rfl⟩
  rw [hR]
  unfold Lx.listErr at hR
  by_cases h1 : 900 < l.length
  · rw [if_pos h1] at hR
    have HV := Lib.hid hR.symm
    clear hR hA hz
    go_enter Tryd.func62, Tryd.ntmps62
    go_wp2
    go_ret
    exact ⟨by rw [HV.out]; rfl, Below.refl _ _⟩
  · rw [if_neg h1] at hR
    obtain ⟨D, hD⟩ : ∃ D, l.all Lx.tokOk = D := ⟨_, rfl⟩
    rw [hD] at hR
    have HV := Lib.hid hR.symm
    have HD := Lib.hid hD
    have HA := Lib.hid hA
    have HZ := Lib.hid hz
    clear hR hD hA hz
    go_enter Tryd.func62, Tryd.ntmps62
    go_wp2
    go_loopw [3] (fun i wr => ∃ (k : Nat), k ≤ l.length ∧ i = .int .i64 k ∧ Hid ((l.drop k).all Lx.tokOk = D) ∧ Below w.heap.size w wr) (fun i _ => l.length - (intOf i).toNat)
    case atStart => exact ⟨0, Nat.zero_le _, rfl, HD.out, Below.refl _ _⟩
    case round =>
      obtain ⟨k, hk, rfl, hdr, hB⟩ := hrel
      have hsz := hB.size
      by_cases hlt : k < l.length
      · obtain ⟨b, off, hAe, hb, hc⟩ := HA.out.below hB (by intro e; subst e; simp at hlt)
        cases hAe
        obtain ⟨x, hx⟩ : ∃ x, l[k]? = some x := ⟨_, List.getElem?_eq_getElem hlt⟩
        obtain ⟨x1, x2, x3⟩ := hc k x hx
        have hd : l.drop k = x :: l.drop (k + 1) := by
          obtain ⟨hk, hx⟩ := List.getElem?_eq_some_iff.1 hx
          rw [List.drop_eq_getElem_cons hk, hx]
        have hxz := HZ.out x (List.mem_of_getElem? hx)
        have HC := Lib.hid (refIsRight_any x wr hxz)
        have hdr' := hdr.out
        rw [hd, List.all_cons] at hdr'
        clear hd hx hc hdr hxz
        cases hq : Lx.tokOk x
        · rw [hq, Bool.false_and] at hdr'
          rw [hq] at HC
          have HV2 : Hid (R = 2) := by have := HV.out; rw [← hdr', if_pos rfl] at this; exact this
          clear HV hdr' hq HD
          go_wp2_with (go_at_call 88; refine HC.out.mono ?_; rintro e w1 ⟨rfl, hB1⟩)
          go_ret
          exact ⟨by rw [HV2.out]; rfl, hB.trans (hB1.mono hsz)⟩
        · rw [hq, Bool.true_and] at hdr'
          rw [hq] at HC
          have HDR := Lib.hid hdr'
          clear hdr' hq
          go_wp2_with (go_at_call 88; refine HC.out.mono ?_; rintro e w1 ⟨rfl, hB1⟩)
          go_roundw
          case rel => exact ⟨k + 1, by omega, by go_num, HDR.out, hB.trans (hB1.mono hsz)⟩
          case measure => simp [intOf]; omega
      · obtain rfl : k = l.length := by omega
        have hdr' := hdr.out
        rw [List.drop_length, List.all_nil] at hdr'
        have HV2 : Hid (R = 0) := by have := HV.out; rw [← hdr', if_neg (by simp)] at this; exact this
        clear HV hdr' hdr HD
        go_wp2
        go_ret
        exact ⟨by rw [HV2.out]; rfl, hB⟩

set_option maxRecDepth 100000 in
set_option maxHeartbeats 2000000 in
theorem refApart_any (x y : Lx.Tk) (w : World) :
    Calls Tryd.prog 63 #[.agg #[.int .u8 x.kind, .string x.text, .int .i64 x.pos], .agg #[.int .u8 y.kind, .string y.text, .int .i64 y.pos]] w fun e w' => e = .returned (.bool (Lx.clashT x y)) ∧ Below w.heap.size w w' := by
  have hB : Below w.heap.size w ((w.alloc (.cells #[.int .u8 x.kind, .string x.text, .int .i64 x.pos] 63)).alloc (.cells #[.int .u8 y.kind, .string y.text, .int .i64 y.pos] 63)) := ((Below.refl _ _).alloc (Nat.le_refl _) _).alloc (by simp) _
  obtain ⟨R, hR⟩ : ∃ R, Lx.clashT x y = R := ⟨_, rfl⟩
  rw [hR]
  unfold Lx.clashT at hR
  have ec := str_eq x.text Lx.colon
  have ee := str_eq y.text Lx.equals
  rw [show Lx.colon.toList = [58] from (ByteArray.toList_eq _).trans rfl] at ec
  rw [show Lx.equals.toList = [61] from (ByteArray.toList_eq _).trans rfl] at ee
  unfold Lx.colon at ec
  unfold Lx.equals at ee
  by_cases h4 : x.kind = 4 ∨ y.kind = 4
  · rw [if_pos h4] at hR
    have HV := Lib.hid hR.symm
    have h4' : (x.kind = 4) ∨ (x.kind ≠ 4 ∧ y.kind = 4) := by omega
    clear hR h4
    have c5 : (x.text = ⟨#[58]⟩ ∧ y.text = ⟨#[61]⟩) ∨ (x.text = ⟨#[58]⟩ ∧ y.text ≠ ⟨#[61]⟩) ∨ x.text ≠ ⟨#[58]⟩ := by
      by_cases c : x.text = ⟨#[58]⟩
      · by_cases d : y.text = ⟨#[61]⟩
        · exact .inl ⟨c, d⟩
        · exact .inr (.inl ⟨c, d⟩)
      · exact .inr (.inr c)
    have HVV : Hid (R = decide (x.text = ⟨#[58]⟩ ∧ y.text = ⟨#[61]⟩)) := HV.out
    clear HV
    obtain ⟨kx, tx, px⟩ := x
    obtain ⟨ky, ty, py⟩ := y
    simp only at *
    rcases h4' with rfl | ⟨h4, rfl⟩
    all_goals
      try (have hk4 : (kx != 4) = true := by rw [bne_iff_ne]; omega)
      rcases c5 with ⟨c5, c6⟩ | ⟨c5, c6⟩ | c5
      · have HT : Hid (R = true) := by rw [Hid, HVV.out]; exact decide_eq_true ⟨c5, c6⟩
        rw [decide_eq_true c5] at ec
        rw [decide_eq_true c6] at ee
        clear c5 c6 HVV
        go_enter Tryd.func63, Tryd.ntmps63
        go_wp2
        go_ret
        exact ⟨ret_bool (by first | (rw [HT.out]; done) | (rw [HT.out]; simp [ec, ee]) | (rw [HT.out]; simp [ec])), hB⟩
      · have HT : Hid (R = false) := by rw [Hid, HVV.out]; exact decide_eq_false (fun h => c6 h.2)
        rw [decide_eq_true c5] at ec
        rw [decide_eq_false c6] at ee
        clear c5 c6 HVV
        go_enter Tryd.func63, Tryd.ntmps63
        go_wp2
        go_ret
        exact ⟨ret_bool (by first | (rw [HT.out]; done) | (rw [HT.out]; simp [ec, ee]) | (rw [HT.out]; simp [ec])), hB⟩
      · have HT : Hid (R = false) := by rw [Hid, HVV.out]; exact decide_eq_false (fun h => c5 h.1)
        rw [decide_eq_false c5] at ec
        clear c5 HVV
        go_enter Tryd.func63, Tryd.ntmps63
        go_wp2
        go_ret
        exact ⟨ret_bool (by first | (rw [HT.out]; done) | (rw [HT.out]; simp [ec, ee]) | (rw [HT.out]; simp [ec])), hB⟩
  · rw [if_neg h4] at hR
    have HV := Lib.hid hR.symm
    have k1 : (x.kind != 4) = true := by rw [bne_iff_ne]; omega
    have k2 : (y.kind != 4) = true := by rw [bne_iff_ne]; omega
    clear hR h4 ec ee
    go_enter Tryd.func63, Tryd.ntmps63
    go_wp2
    go_ret
    exact ⟨by rw [HV.out]; rfl, hB⟩
end Go.Proofs.YtchkngabppmbkaaDoor

/-
  WALKS: the reference's Tight.
-/
namespace Go.Proofs.YtchkngabppmbkaaDoor
open Go.RowKit

theorem bytes_snoc (a b : ByteArray) : (a ++ b).data.toList = a.data.toList ++ b.data.toList := by
  rw [ByteArray.data_append, Array.toList_append]

set_option maxRecDepth 100000 in
set_option maxHeartbeats 4000000 in
theorem refTight_any (l : List Lx.Tk) (A : Option Addr) (c : Nat) (w : World) (hl : l.length ≤ 1152921504606846976) (hz : ∀ x ∈ l, x.text.size ≤ 3000) (hA : Tks w w.heap.size A l) :
    Calls Tryd.prog 30 #[.slice A l.length c] w fun e w' => e = .returned (.tuple #[.string (Lx.tightOf l).1, .int .i64 ((Lx.tightOf l).2 : Int)]) ∧ Below w.heap.size w w' := by
  have HE := Lib.hid (refTokensError_any l A c w hl (fun x hx => by have := hz x hx; omega) hA)
  by_cases h0 : Lx.listErr l = 0
  · have h9 : l.length ≤ 900 := by
      unfold Lx.listErr at h0
      split at h0
      · cases h0
      · omega
    rw [Lx.tightOf, if_neg (by omega)]
    rw [h0] at HE
    obtain ⟨R, hR⟩ : ∃ R, Lx.tightF none l = R := ⟨_, rfl⟩
    rw [hR]
    have HR := Lib.hid hR
    obtain ⟨V, hV⟩ : ∃ V : ByteArray × Nat, (if 2500 < R.length then (⟨#[]⟩, 5) else (⟨R.toArray⟩, 0)) = V := ⟨_, rfl⟩
    rw [hV]
    have HV := Lib.hid hV; clear hV
    have HA := Lib.hid hA; have HZ := Lib.hid hz
    clear hR hA hz h0
    go_enter Tryd.func30, Tryd.ntmps30
    go_wp2_with (go_at_call 62; refine HE.out.mono ?_; rintro e w1 ⟨rfl, hB1⟩)
    go_loopw [5, 6] (fun o i wr => ∃ (k : Nat) (out : ByteArray), k ≤ l.length ∧ i = .int .i64 k ∧ o = .string out ∧ Hid (R = out.data.toList ++ Lx.tightF (prevT l k) (l.drop k)) ∧ out.size ≤ k * 4000 ∧ Below w.heap.size w wr) (fun _ i _ => l.length - (intOf i).toNat)
    case atStart => exact ⟨0, ⟨#[]⟩, Nat.zero_le _, rfl, rfl, by rw [Hid, ← HR.out]; rfl, by simp [ByteArray.size], hB1⟩
    case round =>
      obtain ⟨k, out, hk, rfl, rfl, hbs, hbl, hBr⟩ := hrel
      have hszr := hBr.size
      clear hB1
      by_cases hlt : k < l.length
      · obtain ⟨ba, oa, hAe, hba, hca⟩ := HA.out.below hBr (tks_neQ hlt)
        cases hAe
        obtain ⟨x, hx⟩ : ∃ x, l[k]? = some x := ⟨_, List.getElem?_eq_getElem hlt⟩
        obtain ⟨x1, x2, x3⟩ := hca k x hx
        have htx := HZ.out x (List.mem_of_getElem? hx)
        have hbs' := hbs.out
        rw [Lx.drop_of_get hx] at hbs'
        have HN := Lib.hid (prevT_next hx)
        have ad0 : ∀ W : World, (Op.stringOp .add out x.text).run Tryd.prog W = .ok (.string (out ++ x.text)) W := fun W => run_string_add_sum (w := W) _ _ (by omega)
        by_cases hk0 : k = 0
        · have hsep : Lx.tightF (prevT l k) (x :: l.drop (k + 1)) = x.text.data.toList ++ Lx.tightF (some x) (l.drop (k + 1)) := by unfold prevT; rw [if_pos hk0]; rfl
          rw [hsep, ← List.append_assoc, ← bytes_snoc] at hbs'
          have HBS := Lib.hid hbs'
          have q0 : decide ((k : Int) > 0) = false := decide_eq_false (by omega)
          have q1 : ¬ 0 < k := by omega
          have hsz2 : (out ++ x.text).size ≤ (k + 1) * 4000 := by rw [ByteArray.size_append]; omega
          have HS2 := Lib.hid hsz2
          clear hbs hbs' hca hx hsep hk0 hsz2
          go_wp2
          go_quiet (fail)
          go_wp2
          go_roundw
          case rel =>
            exact ⟨k + 1, out ++ x.text, by omega, by go_num, rfl, by rw [Hid, HN.out]; exact HBS.out, HS2.out, below_drewN hBr nq⟩
          case measure => simp [intOf]; omega
        · obtain ⟨y, hy⟩ : ∃ y, l[k - 1]? = some y := ⟨_, List.getElem?_eq_getElem (by omega)⟩
          obtain ⟨y1, y2, y3⟩ := hca (k - 1) y hy
          have hpv : prevT l k = some y := by unfold prevT; rw [if_neg hk0]; exact hy
          have hsep : Lx.tightF (prevT l k) (x :: l.drop (k + 1)) = (if Lx.clashT y x then [32] else []) ++ (x.text.data.toList ++ Lx.tightF (some x) (l.drop (k + 1))) := by rw [hpv]; rfl
          rw [hsep] at hbs'
          have HC := Lib.hid (refApart_any y x wr.drew)
          have hw1 : IntKind.i64.wrap ((k : Int) - 1) = ((k - 1 : Nat) : Int) := by rw [IntWalk.i64_in _ (by omega)]; omega
          have i1 : k - 1 < l.length := by omega
          have q1 : 0 < k := by omega
          have q2 : (0 : Int) < (k : Int) := by omega
          have q3 : (k : Int) > 0 := by omega
          cases hcl : Lx.clashT y x
          · rw [hcl, if_neg (by simp), List.nil_append, ← List.append_assoc, ← bytes_snoc] at hbs'
            rw [hcl] at HC
            have HBS := Lib.hid hbs'
            have HS2 : Hid ((out ++ x.text).size ≤ (k + 1) * 4000) := by rw [Hid, ByteArray.size_append]; omega
            clear hbs hbs' hca hx hy hsep hpv hcl
            have hxx : ∀ w2, Below wr.heap.size wr w2 → w2.cell? ⟨ba, oa + k * 3 + 1, none⟩ = some (.string x.text) := fun w2 h => (h.cell (p := ⟨ba, _, none⟩) (show ba < wr.heap.size by omega)).trans x2
            have HXX := Lib.hid hxx; clear hxx
            generalize k - 1 = k1 at *
            go_wp2
            go_still_tail 12, (by kernel_rfl)
            change wpList _ _ _ _ _ wr.drew
            go_wp2_with (go_at_call 63; refine HC.out.mono ?_; rintro e w2 ⟨rfl, hB2⟩; have hBr2 : Below wr.heap.size wr w2 := (Below.refl _ wr).drew.trans hB2; have z2 := HXX.out w2 hBr2)
            go_roundw
            case rel =>
              exact ⟨k + 1, out ++ x.text, by omega, by go_num, rfl, by rw [Hid, HN.out]; exact HBS.out, HS2.out, hBr.trans (hBr2.mono hszr)⟩
            case measure => simp [intOf]; omega
          · rw [hcl, if_pos rfl, show (out.data.toList ++ ([32] ++ (x.text.data.toList ++ Lx.tightF (some x) (l.drop (k + 1))))) = ((out ++ ⟨#[32]⟩) ++ x.text).data.toList ++ Lx.tightF (some x) (l.drop (k + 1)) by rw [bytes_snoc, bytes_snoc]; simp] at hbs'
            rw [hcl] at HC
            have HBS := Lib.hid hbs'
            have hs1 : (out ++ (⟨#[32]⟩ : ByteArray)).size = out.size + 1 := by rw [ByteArray.size_append]; rfl
            have HS2 : Hid (((out ++ ⟨#[32]⟩) ++ x.text).size ≤ (k + 1) * 4000) := by rw [Hid, ByteArray.size_append, hs1]; omega
            have ad1 : ∀ W : World, (Op.stringOp .add out ⟨#[32]⟩).run Tryd.prog W = .ok (.string (out ++ ⟨#[32]⟩)) W := fun W => run_string_add_sum (w := W) _ _ (by have : (⟨#[32]⟩ : ByteArray).size = 1 := rfl; omega)
            have ad2 : ∀ W : World, (Op.stringOp .add (out ++ ⟨#[32]⟩) x.text).run Tryd.prog W = .ok (.string ((out ++ ⟨#[32]⟩) ++ x.text)) W := fun W => run_string_add_sum (w := W) _ _ (by omega)
            clear hbs hbs' hca hx hy hsep hpv hcl hs1
            have hxx : ∀ w2, Below wr.heap.size wr w2 → w2.cell? ⟨ba, oa + k * 3 + 1, none⟩ = some (.string x.text) := fun w2 h => (h.cell (p := ⟨ba, _, none⟩) (show ba < wr.heap.size by omega)).trans x2
            have HXX := Lib.hid hxx; clear hxx
            generalize k - 1 = k1 at *
            go_wp2
            go_still_tail 12, (by kernel_rfl)
            change wpList _ _ _ _ _ wr.drew
            go_wp2_with (go_at_call 63; refine HC.out.mono ?_; rintro e w2 ⟨rfl, hB2⟩; have hBr2 : Below wr.heap.size wr w2 := (Below.refl _ wr).drew.trans hB2; have z2 := HXX.out w2 hBr2)
            go_roundw
            case rel =>
              exact ⟨k + 1, (out ++ ⟨#[32]⟩) ++ x.text, by omega, by go_num, rfl, by rw [Hid, HN.out]; exact HBS.out, HS2.out, hBr.trans (hBr2.mono hszr)⟩
            case measure => simp [intOf]; omega
      · obtain rfl : k = l.length := by omega
        have hbs' := hbs.out
        rw [List.drop_length] at hbs'
        have hout : R = out.data.toList := by rw [hbs']; simp [Lx.tightF]
        have hlen : R.length = out.size := by rw [hout]; rfl
        have HV2 := HV.out
        rw [hlen] at HV2
        have hoe : (⟨R.toArray⟩ : ByteArray) = out := by rw [hout]
        rw [hoe] at HV2
        clear hbs hbs' hout hlen hoe HV
        by_cases h25 : 2500 < out.size
        · rw [if_pos h25] at HV2
          have d5 : decide ((out.size : Int) > 2500) = true := decide_eq_true (by omega)
          have HV3 := Lib.hid HV2; clear HV2
          go_wp2
          go_ret2
          exact ⟨by rw [← HV3.out]; rfl, hBr⟩
        · rw [if_neg h25] at HV2
          have d5 : decide ((out.size : Int) > 2500) = false := decide_eq_false (by omega)
          have HV3 := Lib.hid HV2; clear HV2
          go_wp2
          go_ret2
          exact ⟨by rw [← HV3.out]; rfl, hBr⟩
  · have ht : Lx.tightOf l = (⟨#[]⟩, Lx.listErr l) := by rw [Lx.tightOf, if_pos h0]
    rw [ht]
    generalize Lx.listErr l = er at *
    have h0' : ((er : Int) != 0) = true := by rw [bne_iff_ne]; omega
    clear h0 ht hz hA
    go_enter Tryd.func30, Tryd.ntmps30
    go_wp2_with (go_at_call 62; refine HE.out.mono ?_; rintro e w1 ⟨rfl, hB1⟩)
    go_ret2
    exact ⟨rfl, hB1⟩
end Go.Proofs.YtchkngabppmbkaaDoor

/-
  WALKS: opener, closing.
-/
namespace Go.Proofs.YtchkngabppmbkaaDoor
open Go.RowKit

theorem lit_eq (t : ByteArray) (b : UInt8) : (t.toList == [b]) = decide (t = ⟨#[b]⟩) := by
  have h := str_eq t ⟨#[b]⟩
  rw [show (⟨#[b]⟩ : ByteArray).toList = [b] from (ByteArray.toList_eq _).trans rfl] at h
  exact h
/-- What closes a bracket; nothing for others. -/
def closeOf (t : ByteArray) : ByteArray := if t = ⟨#[40]⟩ then ⟨#[41]⟩ else if t = ⟨#[123]⟩ then ⟨#[125]⟩ else ⟨#[]⟩

set_option maxRecDepth 100000 in
set_option maxHeartbeats 2000000 in
theorem opener_any (t : ByteArray) (w : World) : Calls Tryd.prog 64 #[.string t] w fun e w' => e = .returned (.string (Lx.opener t)) ∧ w' = w := by
  have ec := lit_eq t 41
  obtain ⟨R, hR⟩ : ∃ R, Lx.opener t = R := ⟨_, rfl⟩
  rw [hR]
  unfold Lx.opener at hR
  by_cases h : t = ⟨#[41]⟩
  · rw [if_pos h] at hR
    rw [decide_eq_true h] at ec
    have HR := Lib.hid hR
    clear hR h
    go_enter Tryd.func64, Tryd.ntmps64
    go_wp2
    go_ret
    exact ⟨by rw [← HR.out]; rfl, rfl⟩
  · rw [if_neg h] at hR
    rw [decide_eq_false h] at ec
    have HR := Lib.hid hR
    clear hR h
    go_enter Tryd.func64, Tryd.ntmps64
    go_wp2
    go_ret
    exact ⟨by rw [← HR.out]; rfl, rfl⟩

set_option maxRecDepth 100000 in
set_option maxHeartbeats 2000000 in
theorem closing_any (x : Lx.Tk) (w : World) : Calls Tryd.prog 65 #[.agg #[.int .u8 x.kind, .string x.text, .int .i64 x.pos]] w fun e w' => e = .returned (.string (if x.kind = 4 then closeOf x.text else ⟨#[]⟩)) ∧ Below w.heap.size w w' := by
  have hB : Below w.heap.size w (w.alloc (.cells #[.int .u8 x.kind, .string x.text, .int .i64 x.pos] 63)) := (Below.refl _ _).alloc (Nat.le_refl _) _
  have ec := lit_eq x.text 40
  have ee := lit_eq x.text 123
  obtain ⟨R, hR⟩ : ∃ R, (if x.kind = 4 then closeOf x.text else ⟨#[]⟩) = R := ⟨_, rfl⟩
  rw [hR]
  by_cases h4 : x.kind = 4
  · rw [if_pos h4] at hR
    unfold closeOf at hR
    have k4 : (x.kind == 4) = true := by rw [beq_iff_eq]; exact h4
    by_cases h : x.text = ⟨#[40]⟩
    · rw [if_pos h] at hR
      rw [decide_eq_true h] at ec
      have HR := Lib.hid hR
      clear hR h ee h4
      go_enter Tryd.func65, Tryd.ntmps65
      go_wp2
      go_ret
      exact ⟨by rw [← HR.out]; rfl, hB⟩
    · rw [if_neg h] at hR
      rw [decide_eq_false h] at ec
      by_cases h2 : x.text = ⟨#[123]⟩
      · rw [if_pos h2] at hR
        rw [decide_eq_true h2] at ee
        have HR := Lib.hid hR
        clear hR h h2 h4
        go_enter Tryd.func65, Tryd.ntmps65
        go_wp2
        go_ret
        exact ⟨by rw [← HR.out]; rfl, hB⟩
      · rw [if_neg h2] at hR
        rw [decide_eq_false h2] at ee
        have HR := Lib.hid hR
        clear hR h h2 h4
        go_enter Tryd.func65, Tryd.ntmps65
        go_wp2
        go_ret
        exact ⟨by rw [← HR.out]; rfl, hB⟩
  · rw [if_neg h4] at hR
    have k4 : (x.kind == 4) = false := by rw [beq_eq_false_iff_ne]; exact h4
    have HR := Lib.hid hR
    clear hR h4 ec ee
    go_enter Tryd.func65, Tryd.ntmps65
    go_wp2
    go_ret
    exact ⟨by rw [← HR.out]; rfl, hB⟩
end Go.Proofs.YtchkngabppmbkaaDoor

/-
  WALKS: lex.Pairs.
-/
namespace Go.Proofs.YtchkngabppmbkaaDoor
open Go.RowKit

def opCells (l : List Nat) : List Value := l.map (fun (k : Nat) => Value.int .i64 (k : Int))
def pairCells (out : List Int) (n : Nat) : List Value := intCells out ++ List.replicate (n - out.length) (.int .i64 0)
theorem intCells_length (l : List Int) : (intCells l).length = l.length := by simp [intCells]
theorem pairCells_put {out : List Int} {n : Nat} (h : out.length < n) (z : Int) : (pairCells out n).set out.length (.int .i64 z) = pairCells (out ++ [z]) n := by
  unfold pairCells
  obtain ⟨d, hd⟩ : ∃ d, n - out.length = d + 1 := ⟨n - out.length - 1, by omega⟩
  have hd2 : n - (out ++ [z]).length = d := by simp; omega
  rw [hd, hd2, List.replicate_succ, List.set_append_right _ _ (by rw [intCells_length]; exact Nat.le_refl _), intCells_length, Nat.sub_self, List.set_cons_zero]
  simp [intCells]
theorem pairCells_set {out : List Int} {n j : Nat} (h : j < out.length) (z : Int) : (pairCells out n).set j (.int .i64 z) = pairCells (out.set j z) n := by
  unfold pairCells
  rw [List.set_append_left _ _ (by rw [intCells_length]; exact h), List.length_set, intCells, intCells, List.map_set]
theorem pairCells_at {out : List Int} {n : Nat} (h : out.length < n) : (pairCells out n)[out.length]? = some (.int .i64 0) := by
  unfold pairCells
  rw [List.getElem?_append_right (by rw [intCells_length]; exact Nat.le_refl _), intCells_length, Nat.sub_self, List.getElem?_replicate, if_pos (by omega)]
theorem pairCells_in {out : List Int} {n j : Nat} (h : j < out.length) : ∃ z, (pairCells out n)[j]? = some (.int .i64 z) := by
  refine ⟨out[j], ?_⟩
  unfold pairCells
  rw [List.getElem?_append_left (by rw [intCells_length]; exact h)]
  simp [intCells, h]
theorem pairCells_full {out : List Int} {n : Nat} (h : out.length = n) : pairCells out n = intCells out := by
  unfold pairCells; rw [h, Nat.sub_self]; simp
theorem pairCells_nil (n : Nat) : (madeCells (Value.int .i64 0).cells (n * 1)).toList = pairCells [] n := by
  rw [Nat.mul_one]
  refine List.ext_getElem (by simp [pairCells, intCells, size_madeCells]) fun i h1 h2 => ?_
  simp [pairCells, intCells, madeCells, Value.cells, Nat.mod_one]
theorem ops_shrink {w : World} {base : Nat} {e : TypeId} {g : Nat} {n cap : Nat} {xs : List Value} {x : Value} (h : w.ownsRow base e 1 (.slice (some ⟨g, 0, none⟩) (n + 1) cap) (n + 1) (xs ++ [x])) :
    w.ownsRow base e 1 (.slice (some ⟨g, 0, none⟩) n cap) n xs := by
  have hl : xs.length = n := by have := h.1; simp at this; omega
  refine ⟨by omega, .inr ?_⟩
  rcases h.2 with ⟨h', _⟩ | ⟨g', cap', cur, h', h1, h2, h3, h4, h5, h6⟩
  · cases h'
  · simp only [Value.slice.injEq, Option.some.injEq, Addr.mk.injEq, and_true, true_and] at h'
    obtain ⟨rfl, rfl⟩ := h'
    refine ⟨g, cap, cur, rfl, h1, h2, by omega, h4, h5, ?_⟩
    have := congrArg (List.take n) h6
    rw [List.take_take, show min n ((n + 1) * 1) = n by omega, List.take_left' hl] at this
    rw [Nat.mul_one]; exact this
theorem row_lt {w : World} {base g n cap : Nat} {e : TypeId} {size : Nat} {xs : List Value} (h : w.ownsRow base e size (.slice (some ⟨g, 0, none⟩) n cap) n xs) : g < w.heap.size ∧ base ≤ g := by
  rcases h.2 with ⟨h', _⟩ | ⟨g', cap', cur, h', h1, h2, _⟩
  · cases h'
  · simp only [Value.slice.injEq, Option.some.injEq, Addr.mk.injEq, and_true, true_and] at h'
    obtain ⟨rfl, rfl⟩ := h'
    exact ⟨(Array.getElem?_eq_some_iff.1 h2).1, h1⟩
theorem row_form {w : World} {base : Nat} {e : TypeId} {size : Nat} {v : Value} {n : Nat} {xs : List Value} (h : w.ownsRow base e size v (n + 1) xs) : ∃ g c, v = .slice (some ⟨g, 0, none⟩) (n + 1 : Nat) c ∧ base ≤ g ∧ g < w.heap.size ∧ n + 1 ≤ c := by
  rcases h.2 with ⟨_, h'⟩ | ⟨g, cap, cur, rfl, h1, h2, h3, _⟩
  · cases h'
  · exact ⟨g, cap, rfl, h1, (Array.getElem?_eq_some_iff.1 h2).1, h3⟩
theorem row_base {w : World} {base base' : Nat} {e : TypeId} {size : Nat} {v : Value} {n : Nat} {xs : List Value} (h : w.ownsRow base e size v n xs) (hb : base' ≤ base) : w.ownsRow base' e size v n xs := by
  refine ⟨h.1, ?_⟩
  rcases h.2 with h' | ⟨g, cap, cur, h0, h1, h2⟩
  · exact .inl h'
  · exact .inr ⟨g, cap, cur, h0, Nat.le_trans hb h1, h2⟩

/-- What Pairs returns. -/
def PairsRet (w : World) (r : List Int × Nat × Nat) (e : Ending) (w' : World) : Prop :=
  ∃ v, e = .returned (.tuple #[v, .int .i64 (r.2.1 : Int), .int .i64 (r.2.2 : Int)]) ∧ w'.ownsRow w.heap.size 3 1 v r.1.length (intCells r.1) ∧ Below w.heap.size w w'

theorem fits_last {l : List Lx.Tk} {ops : List Nat} {j i : Nat} : Lx.fitsAt l (ops ++ [j]) i = decide (Lx.textAt l j = Lx.opener (Lx.textAt l i)) := by simp [Lx.fitsAt]
theorem last_or (l : List Nat) : l = [] ∨ ∃ m j, l = m ++ [j] := by
  rcases List.eq_nil_or_concat l with h | ⟨m, j, h⟩
  · exact .inl h
  · exact .inr ⟨m, j, by simpa using h⟩
theorem textAt_get {l : List Lx.Tk} {k : Nat} {x : Lx.Tk} (h : l[k]? = some x) : Lx.textAt l k = x.text := by simp [Lx.textAt, h]

set_option maxRecDepth 100000 in
set_option maxHeartbeats 4000000 in
theorem pairs_any (l : List Lx.Tk) (A : Option Addr) (c : Nat) (w : World) (hG : GV w) (hl : l.length ≤ 1152921504606846976) (hz : ∀ x ∈ l, x.text.size ≤ 281474976710656) (hA : Tks w w.heap.size A l) :
    Calls Tryd.prog 31 #[.slice A l.length c] w (PairsRet w (Lx.pairsOf l)) := by
  have HE := Lib.hid (listError_any l A c w hG hl hz hA)
  obtain ⟨i0, hi, hz0, hz1, hz2⟩ := info_parts infoInt
  by_cases h0 : Lx.listErr l = 0
  · have h9 : l.length ≤ 900 := by
      unfold Lx.listErr at h0
      split at h0
      · cases h0
      · omega
    obtain ⟨R, hR⟩ : ∃ R, Lx.pairsGo l l.length 0 [] [] = R := ⟨_, rfl⟩
    rw [Lx.pairsOf, if_neg (by omega), hR]
    rw [h0] at HE
    have HR := Lib.hid hR
    have HA := Lib.hid hA
    clear hR hA hz h0 hG
    go_enter Tryd.func31, Tryd.ntmps31
    go_wp2_with (first
      | (go_at_call 56; refine HE.out.mono ?_; rintro e w1 ⟨rfl, hB1⟩)
      | (go_loud (refine wpList_make_full _ rfl _ _ 41 rfl w1.heap.size 3 i0 (.int .i64 0) 1 Tryd.underlying41 hi hz0 hz1 .i64 .i64 _ _ l.length rfl rfl rfl rfl (by rw [hz2]; omega) (by unfold maxLen; omega) (Nat.le_refl _) ?_); intro w2 hrow hgr))
    rw [pairCells_nil] at hrow
    have hsz1 := hB1.size
    have hB2 : Below w.heap.size w w2 := hB1.trans ⟨hgr.os, hgr.tape, hgr.output, hgr.size, fun j hj => hgr.block j (by omega) (by simp)⟩
    have hlt2 := (row_lt hrow).1
    have HROW := Lib.hid hrow
    clear hrow hgr
    go_loopw [7, 21] (fun o i wr => ∃ (k : Nat) (out : List Int) (ops : List Nat), k ≤ l.length ∧ i = .int .i64 k ∧ Hid (Lx.pairsGo l (l.length - k) k out ops = R) ∧ Hid (out.length = k) ∧ Hid (∀ j ∈ ops, j < k) ∧ ops.length ≤ k ∧
      Hid (wr.ownsRow (w1.heap.size + 1) 3 1 o ops.length (opCells ops)) ∧ Hid (wr.ownsRow w1.heap.size 3 1 (.slice (some ⟨w1.heap.size, 0, none⟩) l.length l.length) l.length (pairCells out l.length)) ∧ Below w.heap.size w wr) (fun _ i _ => l.length - (intOf i).toNat)
    case atStart => exact ⟨0, [], [], Nat.zero_le _, rfl, HR.out, rfl, (fun j hj => by cases hj), Nat.zero_le _, World.ownsRow_nil _ _ _ _, HROW.out, hB2⟩
    case round =>
      obtain ⟨k, out, ops, hk, rfl, hgo, hol, hop, hopl, hor, hpr, hB⟩ := hrel
      clear hB1 hB2 hlt2 HROW HE
      have hszr := hB.size
      have hP := (row_lt hpr.out).1
      obtain ⟨ao, cp, ho⟩ := own_formO hor.out
      subst ho
      by_cases hlt : k < l.length
      · obtain ⟨ba, oa, hAe, hba, hca⟩ := HA.out.below hB (by intro e; subst e; simp at hlt)
        cases hAe
        obtain ⟨x, hx⟩ : ∃ x, l[k]? = some x := ⟨_, List.getElem?_eq_getElem hlt⟩
        obtain ⟨x1, x2, x3⟩ := hca k x hx
        have htx := textAt_get hx
        have hf : l.length - k = (l.length - (k + 1)) + 1 := by omega
        have hsw : (wr.setCell ⟨w1.heap.size, k, none⟩ (.int .i64 (-1))).heap.size = wr.heap.size := by simp [World.setCell]
        have hB3 : Below w.heap.size w ((wr.setCell ⟨w1.heap.size, k, none⟩ (.int .i64 (-1))).alloc (.cells #[.int .u8 x.kind, .string x.text, .int .i64 x.pos] 63)) := (hB.setCell (p := ⟨w1.heap.size, k, none⟩) hsz1 _).alloc (by rw [hsw]; exact hszr) _
        have fP := (hpr.out.alloc (.cells #[.int .u8 x.kind, .string x.text, .int .i64 x.pos] 63)).frozenAt k
        have fP0 := hpr.out.frozenAt k
        have cP0 : wr.cell? ⟨w1.heap.size, k, none⟩ = some (.int .i64 0) := by
          have h := pairCells_at (out := out) (n := l.length) (by rw [hol.out]; exact hlt)
          rw [hol.out] at h
          exact (hpr.out.cellAt k (by omega)).trans h
        have cP : (wr.alloc (.cells #[.int .u8 x.kind, .string x.text, .int .i64 x.pos] 63)).cell? ⟨w1.heap.size, k, none⟩ = some (.int .i64 0) := (((Below.refl _ wr).alloc (Nat.le_refl _) _).cell (p := ⟨w1.heap.size, k, none⟩) hP).trans cP0
        have rowB := (hpr.out.stored k (.int .i64 (-1))).1.alloc (.cells #[.int .u8 x.kind, .string x.text, .int .i64 x.pos] 63)
        have hput := pairCells_put (out := out) (n := l.length) (by rw [hol.out]; exact hlt) (-1)
        rw [hol.out] at hput
        rw [hput] at rowB
        have opsB := (ownsRow_setCell_below hor.out (a := ⟨w1.heap.size, k, none⟩) (Nat.lt_succ_self _) (.int .i64 (-1))).alloc (.cells #[.int .u8 x.kind, .string x.text, .int .i64 x.pos] 63)
        have mT1 : ((wr.setCell ⟨w1.heap.size, k, none⟩ (.int .i64 (-1))).alloc (.cells #[.int .u8 x.kind, .string x.text, .int .i64 x.pos] 63)).cell? ⟨wr.heap.size, 1, none⟩ = some (.string x.text) := by
          have h := cells_new_at (wr.setCell ⟨w1.heap.size, k, none⟩ (.int .i64 (-1))) [Value.int .u8 x.kind, Value.string x.text, Value.int .i64 x.pos] 63 1 (.string x.text) rfl
          rw [hsw] at h
          exact h
        have e40 := lit_eq x.text 40
        have e123 := lit_eq x.text 123
        have e41 := lit_eq x.text 41
        have e125 := lit_eq x.text 125
        have RB := Lib.hid rowB; have OB := Lib.hid opsB
        have hi0 : (0 : Int) ≤ (k : Int) := by omega
        have hi1 : (k : Int) < (l.length : Int) := by omega
        clear rowB opsB hput hsw
        by_cases hb : Lx.bOpen (Lx.textAt l k) = true
        · have hgo2 := hgo.out
          rw [hf, Lx.pairsGo_open hb] at hgo2
          have HGO := Lib.hid hgo2
          rw [htx] at hb
          have h2 : x.text = ⟨#[40]⟩ ∨ (x.text ≠ ⟨#[40]⟩ ∧ x.text = ⟨#[123]⟩) := by
            have := of_decide_eq_true hb
            by_cases h : x.text = ⟨#[40]⟩
            · exact .inl h
            · exact .inr ⟨h, this.resolve_left h⟩
          clear hgo hgo2 hb htx hf hca hx e41 e125
          have hnew : ∀ (v' : Value) (w5 : World), w5.ownsRow (w1.heap.size + 1) 3 1 v' (ops.length + 1) (opCells ops ++ [.int .i64 (k : Int)]) → World.grownBy (((wr.setCell ⟨w1.heap.size, k, none⟩ (.int .i64 (-1))).alloc (.cells #[.int .u8 x.kind, .string x.text, .int .i64 x.pos] 63)).alloc (.cells #[.int .i64 (k : Int)] 3)) w5 (Value.slice ao ops.length cp).ownBlock →
              Hid (w5.ownsRow (w1.heap.size + 1) 3 1 v' (ops ++ [k]).length (opCells (ops ++ [k]))) ∧ Hid (w5.ownsRow w1.heap.size 3 1 (.slice (some ⟨w1.heap.size, 0, none⟩) l.length l.length) l.length (pairCells (out ++ [-1]) l.length)) ∧ Below w.heap.size w w5 := by
            intro v' w5 ho hg
            have hne : ∀ j, some j = (Value.slice ao ops.length cp).ownBlock → w1.heap.size + 1 ≤ j := fun j e => (own_ltO OB.out e).1
            refine ⟨?_, (RB.out.alloc _).kept hg (.inr fun e => by have := hne w1.heap.size e; omega), ?_⟩
            · rw [Hid, List.length_append, opCells, List.map_append]; exact ho
            · refine (hB3.alloc hB3.size (.cells #[.int .i64 (k : Int)] 3)).trans ⟨hg.os, hg.tape, hg.output, hg.size, fun j hj => hg.block j (by have := hB3.size; simp at this ⊢; omega) (fun e => by have := hne j e; omega)⟩
          have HNEW := Lib.hid hnew
          clear hnew
          rcases h2 with h2 | ⟨h2, h3⟩
          · rw [decide_eq_true h2] at e40
            clear h2 e123
            go_wp2_with (at_builtin; go_loud (refine wpList_append_own_at _ rfl _ _ 41 rfl (w1.heap.size + 1) 3 i0 (.int .i64 0) 1 8 Tryd.underlying41 hi hz0 hz1 hz2 rfl (by decide) _ _ _ rfl (OB.out.alloc _) ⟨wr.heap.size + 1, 0, none⟩ 1 1 [.int .i64 (k : Int)] rfl rfl (cell_one_atO _ _ (by simp [World.setCell]) _ _) (by simp [Value.oneCell']) (by unfold maxLen; omega) (by omega) (by simp [World.setCell]; omega) ?_); intro v' w5 hown' hgrow _ hat)
            obtain ⟨n1, n2, n3⟩ := HNEW.out _ _ hown' hgrow
            go_roundw
            case rel => exact ⟨k + 1, out ++ [-1], ops ++ [k], by omega, by go_num, HGO.out, by rw [Hid, List.length_append, hol.out]; rfl, (fun j hj => by rcases List.mem_append.1 hj with h | h; exact Nat.lt_succ_of_lt (hop.out j h); simp at h; omega), by simp; omega, n1, n2, n3⟩
            case measure => simp [intOf]; omega
          · rw [decide_eq_false h2] at e40
            rw [decide_eq_true h3] at e123
            clear h2 h3
            go_wp2_with (at_builtin; go_loud (refine wpList_append_own_at _ rfl _ _ 41 rfl (w1.heap.size + 1) 3 i0 (.int .i64 0) 1 8 Tryd.underlying41 hi hz0 hz1 hz2 rfl (by decide) _ _ _ rfl (OB.out.alloc _) ⟨wr.heap.size + 1, 0, none⟩ 1 1 [.int .i64 (k : Int)] rfl rfl (cell_one_atO _ _ (by simp [World.setCell]) _ _) (by simp [Value.oneCell']) (by unfold maxLen; omega) (by omega) (by simp [World.setCell]; omega) ?_); intro v' w5 hown' hgrow _ hat)
            obtain ⟨n1, n2, n3⟩ := HNEW.out _ _ hown' hgrow
            go_roundw
            case rel => exact ⟨k + 1, out ++ [-1], ops ++ [k], by omega, by go_num, HGO.out, by rw [Hid, List.length_append, hol.out]; rfl, (fun j hj => by rcases List.mem_append.1 hj with h | h; exact Nat.lt_succ_of_lt (hop.out j h); simp at h; omega), by simp; omega, n1, n2, n3⟩
            case measure => simp [intOf]; omega
        · have hb' : Lx.bOpen (Lx.textAt l k) = false := by simpa using hb
          by_cases hs : Lx.bShut (Lx.textAt l k) = true
          · have hsh : x.text = ⟨#[41]⟩ ∨ (x.text ≠ ⟨#[41]⟩ ∧ x.text = ⟨#[125]⟩) := by
              have h := hs
              rw [htx] at h
              have := of_decide_eq_true h
              by_cases h : x.text = ⟨#[41]⟩
              · exact .inl h
              · exact .inr ⟨h, this.resolve_left h⟩
            have n1 : ¬ (x.text = ⟨#[40]⟩ ∨ x.text = ⟨#[123]⟩) := by
              have h := hb'
              rw [htx] at h
              exact of_decide_eq_false h
            rw [decide_eq_false (fun h => n1 (.inl h))] at e40
            rw [decide_eq_false (fun h => n1 (.inr h))] at e123
            clear n1
            rcases last_or ops with rfl | ⟨ops, j, rfl⟩
            · have hgo2 := hgo.out
              rw [hf, Lx.pairsGo_bad hb' hs rfl] at hgo2
              have HGO := Lib.hid hgo2
              clear hgo hgo2 hb hb' hs htx hf hca hx hop
              rcases hsh with h2 | ⟨h2, h3⟩
              · rw [decide_eq_true h2] at e41
                clear h2 e125
                go_wp2
                go_quiet (fail)
                go_wp2
                go_ret3
                exact ⟨_, by rw [← HGO.out]; rfl, by rw [← HGO.out]; exact World.ownsRow_nil _ _ _ _, below_drewN hB3 nq⟩
              · rw [decide_eq_false h2] at e41
                rw [decide_eq_true h3] at e125
                clear h2 h3
                go_wp2
                go_quiet (fail)
                go_wp2
                go_ret3
                exact ⟨_, by rw [← HGO.out]; rfl, by rw [← HGO.out]; exact World.ownsRow_nil _ _ _ _, below_drewN hB3 nq⟩
            · have OB' : ((wr.setCell ⟨w1.heap.size, k, none⟩ (.int .i64 (-1))).alloc (.cells #[.int .u8 x.kind, .string x.text, .int .i64 x.pos] 63)).ownsRow (w1.heap.size + 1) 3 1 (.slice ao (ops.length + 1 : Nat) cp) (ops.length + 1) (opCells ops ++ [.int .i64 (j : Int)]) := by
                have h := OB.out
                rw [List.length_append, opCells, List.map_append] at h
                exact h
              obtain ⟨g, c', he, hg1, hg2, hg3⟩ := row_form OB'
              simp only [Value.slice.injEq, true_and] at he
              obtain ⟨rfl, rfl⟩ := he
              have hjk : j < k := hop.out j (by simp)
              have hopn : ops.length + 1 ≤ k := by simpa using hopl
              have hopm : (ops.length : Int) ≤ 900 := by omega
              obtain ⟨y, hy⟩ : ∃ y, l[j]? = some y := ⟨_, List.getElem?_eq_getElem (by omega)⟩
              obtain ⟨y1, y2, y3⟩ := hca j y hy
              have hlw : ba < wr.heap.size := Nat.lt_of_lt_of_le hba hszr
              have hy2 : ((wr.setCell ⟨w1.heap.size, k, none⟩ (.int .i64 (-1))).alloc (.cells #[.int .u8 x.kind, .string x.text, .int .i64 x.pos] 63)).cell? ⟨ba, oa + j * 3 + 1, none⟩ = some (.string y.text) := by
                rw [World.cell?_of_block (((Below.heap_alloc _ _ _ (by simpa [World.setCell] using hlw))).trans (Below.heap_setCell _ _ _ _ (by simp; omega)))]
                exact y2
              have hcj : ((wr.setCell ⟨w1.heap.size, k, none⟩ (.int .i64 (-1))).alloc (.cells #[.int .u8 x.kind, .string x.text, .int .i64 x.pos] 63)).cell? ⟨g, ops.length, none⟩ = some (.int .i64 (j : Int)) := by
                refine (OB'.cellAt ops.length (by omega)).trans ?_
                rw [List.getElem?_append_right (by simp [opCells])]
                simp [opCells]
              have ey := str_eq y.text (Lx.opener x.text)
              have hj0 : (0 : Int) ≤ (j : Int) := by omega
              have hj1 : (j : Int) < (l.length : Int) := by omega
              have d1 : decide ((ops.length : Int) < 0) = false := decide_eq_false (by omega)
              have io0 : (0 : Int) ≤ (ops.length : Int) := by omega
              have io1 : (ops.length : Int) < (ops.length : Int) + 1 := by omega
              have io2 : (ops.length : Int) ≤ (cp : Int) := by omega
              have hfit : Lx.fitsAt l (ops ++ [j]) k = decide (y.text = Lx.opener x.text) := by rw [fits_last, htx, textAt_get hy]
              have SH := Lib.hid (ops_shrink OB')
              have hgo2 := hgo.out
              have OP2 : Hid (∀ i ∈ ops, i < k) := fun i hi => hop.out i (by simp [hi])
              cases hft : Lx.fitsAt l (ops ++ [j]) k
              · rw [hf, Lx.pairsGo_bad hb' hs hft] at hgo2
                rw [← hfit, hft] at ey
                have HGO := Lib.hid hgo2
                clear hgo hgo2 hb hb' hs htx hf hca hx hop hy y1 y2 y3 OB' hfit hft
                rcases hsh with h2 | ⟨h2, h3⟩
                · rw [decide_eq_true h2] at e41
                  clear h2 e125
                  go_wp2
                  go_quiet ((go_at_call 64; exact Calls.quiet_of_same (opener_any _ _)))
                  go_wp2
                  go_ret3
                  exact ⟨_, by rw [← HGO.out]; rfl, by rw [← HGO.out]; exact World.ownsRow_nil _ _ _ _, below_drewN hB3 nq⟩
                · rw [decide_eq_false h2] at e41
                  rw [decide_eq_true h3] at e125
                  clear h2 h3
                  go_wp2
                  go_quiet ((go_at_call 64; exact Calls.quiet_of_same (opener_any _ _)))
                  go_wp2
                  go_ret3
                  exact ⟨_, by rw [← HGO.out]; rfl, by rw [← HGO.out]; exact World.ownsRow_nil _ _ _ _, below_drewN hB3 nq⟩
              · rw [hf, Lx.pairsGo_fits hb' hs hft] at hgo2
                rw [← hfit, hft] at ey
                have HGO := Lib.hid hgo2
                have hjn : j ≠ k := by omega
                have hjn2 : k ≠ j := by omega
                have FIN : Hid (∀ W : World, Below w.heap.size w W → W.ownsRow w1.heap.size 3 1 (.slice (some ⟨w1.heap.size, 0, none⟩) l.length l.length) l.length (pairCells (out ++ [-1]) l.length) → W.ownsRow (w1.heap.size + 1) 3 1 (.slice (some ⟨g, 0, none⟩) ops.length cp) ops.length (opCells ops) →
                    Hid (((W.setCell ⟨w1.heap.size, k, none⟩ (.int .i64 (j : Int))).setCell ⟨w1.heap.size, j, none⟩ (.int .i64 (k : Int))).ownsRow (w1.heap.size + 1) 3 1 (.slice (some ⟨g, 0, none⟩) ops.length cp) ops.length (opCells ops)) ∧
                    Hid (((W.setCell ⟨w1.heap.size, k, none⟩ (.int .i64 (j : Int))).setCell ⟨w1.heap.size, j, none⟩ (.int .i64 (k : Int))).ownsRow w1.heap.size 3 1 (.slice (some ⟨w1.heap.size, 0, none⟩) l.length l.length) l.length (pairCells (((out ++ [-1]).set k (j : Int)).set j (k : Int)) l.length)) ∧
                    Below w.heap.size w ((W.setCell ⟨w1.heap.size, k, none⟩ (.int .i64 (j : Int))).setCell ⟨w1.heap.size, j, none⟩ (.int .i64 (k : Int)))) := by
                  intro W hW hR hS
                  have r2 := (hR.stored k (.int .i64 (j : Int))).1
                  have s1 := pairCells_set (out := out ++ [-1]) (n := l.length) (j := k) (by rw [List.length_append, hol.out]; simp) (j : Int)
                  rw [s1] at r2
                  have r3 := (r2.stored j (.int .i64 (k : Int))).1
                  have s2 := pairCells_set (out := (out ++ [-1]).set k (j : Int)) (n := l.length) (j := j) (by rw [List.length_set, List.length_append, hol.out]; simp; omega) (k : Int)
                  rw [s2] at r3
                  exact ⟨ownsRow_setCell_below (ownsRow_setCell_below hS (a := ⟨w1.heap.size, k, none⟩) (Nat.lt_succ_self _) _) (a := ⟨w1.heap.size, j, none⟩) (Nat.lt_succ_self _) _, r3, (hW.setCell (p := ⟨w1.heap.size, k, none⟩) hsz1 _).setCell (p := ⟨w1.heap.size, j, none⟩) hsz1 _⟩
                clear hgo hgo2 hb hb' hs htx hf hca hx hop hy y1 y2 y3 OB' hfit hft
                rcases hsh with h2 | ⟨h2, h3⟩
                · rw [decide_eq_true h2] at e41
                  clear h2 e125
                  go_wp2
                  go_quiet ((go_at_call 64; exact Calls.quiet_of_same (opener_any _ _)))
                  go_wp2
                  simp only [List.length_append, List.length_cons, List.length_nil, Nat.zero_add]
                  have B5 : Below w.heap.size w (((wr.setCell ⟨w1.heap.size, k, none⟩ (.int .i64 (-1))).alloc (.cells #[.int .u8 x.kind, .string x.text, .int .i64 x.pos] 63)).drewN nq) := below_drewN hB3 nq
                  have RD : Hid ((((wr.setCell ⟨w1.heap.size, k, none⟩ (.int .i64 (-1))).alloc (.cells #[.int .u8 x.kind, .string x.text, .int .i64 x.pos] 63)).drewN nq).ownsRow w1.heap.size 3 1 (.slice (some ⟨w1.heap.size, 0, none⟩) l.length l.length) l.length (pairCells (out ++ [-1]) l.length)) := ownsRow_belowO RB.out (below_drewN (Below.refl _ _) nq)
                  have SD : Hid ((((wr.setCell ⟨w1.heap.size, k, none⟩ (.int .i64 (-1))).alloc (.cells #[.int .u8 x.kind, .string x.text, .int .i64 x.pos] 63)).drewN nq).ownsRow (w1.heap.size + 1) 3 1 (.slice (some ⟨g, 0, none⟩) ops.length cp) ops.length (opCells ops)) := ownsRow_belowO SH.out (below_drewN (Below.refl _ _) nq)
                  have hcjD : (((wr.setCell ⟨w1.heap.size, k, none⟩ (.int .i64 (-1))).alloc (.cells #[.int .u8 x.kind, .string x.text, .int .i64 x.pos] 63)).drewN nq).cell? ⟨g, ops.length, none⟩ = some (.int .i64 (j : Int)) := hcj
                  clear e40 e123 e41 ey mT1 hy2 hcj x1 x2 x3 hB3 RB OB SH
                  generalize ((wr.setCell ⟨w1.heap.size, k, none⟩ (.int .i64 (-1))).alloc (.cells #[.int .u8 x.kind, .string x.text, .int .i64 x.pos] 63)).drewN nq = WD at *
                  obtain ⟨z1, hz1k⟩ := pairCells_in (out := out ++ [-1]) (n := l.length) (j := k) (by rw [List.length_append, hol.out]; simp)
                  obtain ⟨z2, hz2j⟩ := pairCells_in (out := out ++ [-1]) (n := l.length) (j := j) (by rw [List.length_append, hol.out]; simp; omega)
                  have ck : WD.cell? ⟨w1.heap.size, k, none⟩ = some (.int .i64 z1) := (RD.out.cellAt k (by omega)).trans hz1k
                  have cj : WD.cell? ⟨w1.heap.size, j, none⟩ = some (.int .i64 z2) := (RD.out.cellAt j (by omega)).trans hz2j
                  have fk := RD.out.frozenAt k
                  have fj := RD.out.frozenAt j
                  clear hz1k hz2j
                  have hgP : g ≠ w1.heap.size := by omega
                  have hPg : w1.heap.size ≠ g := by omega
                  have io3 : (ops.length : Int) < ((ops.length + 1 : Nat) : Int) := by omega
                  go_region_held3 (fun w' => w'.cell? ⟨g, ops.length, none⟩ = some (.int .i64 (j : Int))) (first | exact hcjD | go_keep) ((fail))
                  go_wp2
                  obtain ⟨m1, m2, m3⟩ := FIN.out WD B5 RD.out SD.out
                  go_roundw
                  case rel =>
                    exact ⟨k + 1, ((out ++ [-1]).set k (j : Int)).set j (k : Int), ops, by omega, by go_num, HGO, by rw [Hid, List.length_set, List.length_set, List.length_append, hol.out]; rfl, (fun i hi => Nat.lt_succ_of_lt (OP2.out i hi)), by omega, ownsRow_belowO m1.out (Below.refl _ _).drew, ownsRow_belowO m2.out (Below.refl _ _).drew, m3.drew⟩
                  case measure => simp [intOf]; omega
                · rw [decide_eq_false h2] at e41
                  rw [decide_eq_true h3] at e125
                  clear h2 h3
                  go_wp2
                  go_quiet ((go_at_call 64; exact Calls.quiet_of_same (opener_any _ _)))
                  go_wp2
                  simp only [List.length_append, List.length_cons, List.length_nil, Nat.zero_add]
                  have B5 : Below w.heap.size w (((wr.setCell ⟨w1.heap.size, k, none⟩ (.int .i64 (-1))).alloc (.cells #[.int .u8 x.kind, .string x.text, .int .i64 x.pos] 63)).drewN nq) := below_drewN hB3 nq
                  have RD : Hid ((((wr.setCell ⟨w1.heap.size, k, none⟩ (.int .i64 (-1))).alloc (.cells #[.int .u8 x.kind, .string x.text, .int .i64 x.pos] 63)).drewN nq).ownsRow w1.heap.size 3 1 (.slice (some ⟨w1.heap.size, 0, none⟩) l.length l.length) l.length (pairCells (out ++ [-1]) l.length)) := ownsRow_belowO RB.out (below_drewN (Below.refl _ _) nq)
                  have SD : Hid ((((wr.setCell ⟨w1.heap.size, k, none⟩ (.int .i64 (-1))).alloc (.cells #[.int .u8 x.kind, .string x.text, .int .i64 x.pos] 63)).drewN nq).ownsRow (w1.heap.size + 1) 3 1 (.slice (some ⟨g, 0, none⟩) ops.length cp) ops.length (opCells ops)) := ownsRow_belowO SH.out (below_drewN (Below.refl _ _) nq)
                  have hcjD : (((wr.setCell ⟨w1.heap.size, k, none⟩ (.int .i64 (-1))).alloc (.cells #[.int .u8 x.kind, .string x.text, .int .i64 x.pos] 63)).drewN nq).cell? ⟨g, ops.length, none⟩ = some (.int .i64 (j : Int)) := hcj
                  clear e40 e123 e41 ey mT1 hy2 hcj x1 x2 x3 hB3 RB OB SH
                  generalize ((wr.setCell ⟨w1.heap.size, k, none⟩ (.int .i64 (-1))).alloc (.cells #[.int .u8 x.kind, .string x.text, .int .i64 x.pos] 63)).drewN nq = WD at *
                  obtain ⟨z1, hz1k⟩ := pairCells_in (out := out ++ [-1]) (n := l.length) (j := k) (by rw [List.length_append, hol.out]; simp)
                  obtain ⟨z2, hz2j⟩ := pairCells_in (out := out ++ [-1]) (n := l.length) (j := j) (by rw [List.length_append, hol.out]; simp; omega)
                  have ck : WD.cell? ⟨w1.heap.size, k, none⟩ = some (.int .i64 z1) := (RD.out.cellAt k (by omega)).trans hz1k
                  have cj : WD.cell? ⟨w1.heap.size, j, none⟩ = some (.int .i64 z2) := (RD.out.cellAt j (by omega)).trans hz2j
                  have fk := RD.out.frozenAt k
                  have fj := RD.out.frozenAt j
                  clear hz1k hz2j
                  have hgP : g ≠ w1.heap.size := by omega
                  have hPg : w1.heap.size ≠ g := by omega
                  have io3 : (ops.length : Int) < ((ops.length + 1 : Nat) : Int) := by omega
                  go_region_held3 (fun w' => w'.cell? ⟨g, ops.length, none⟩ = some (.int .i64 (j : Int))) (first | exact hcjD | go_keep) ((fail))
                  go_wp2
                  obtain ⟨m1, m2, m3⟩ := FIN.out WD B5 RD.out SD.out
                  go_roundw
                  case rel =>
                    exact ⟨k + 1, ((out ++ [-1]).set k (j : Int)).set j (k : Int), ops, by omega, by go_num, HGO, by rw [Hid, List.length_set, List.length_set, List.length_append, hol.out]; rfl, (fun i hi => Nat.lt_succ_of_lt (OP2.out i hi)), by omega, ownsRow_belowO m1.out (Below.refl _ _).drew, ownsRow_belowO m2.out (Below.refl _ _).drew, m3.drew⟩
                  case measure => simp [intOf]; omega
          · have hs' : Lx.bShut (Lx.textAt l k) = false := by simpa using hs
            have hgo2 := hgo.out
            rw [hf, Lx.pairsGo_other hb' hs'] at hgo2
            have HGO := Lib.hid hgo2
            rw [htx] at hb' hs'
            have n1 := of_decide_eq_false hb'
            have n2 := of_decide_eq_false hs'
            rw [decide_eq_false (fun h => n1 (.inl h))] at e40
            rw [decide_eq_false (fun h => n1 (.inr h))] at e123
            rw [decide_eq_false (fun h => n2 (.inl h))] at e41
            rw [decide_eq_false (fun h => n2 (.inr h))] at e125
            clear hgo hgo2 hb hb' hs hs' htx hf hca hx n1 n2
            go_wp2
            go_roundw
            case rel => exact ⟨k + 1, out ++ [-1], ops, by omega, by go_num, HGO.out, by rw [Hid, List.length_append, hol.out]; rfl, fun j hj => Nat.lt_succ_of_lt (hop.out j hj), by omega, OB.out, RB.out, hB3⟩
            case measure => simp [intOf]; omega
      · obtain rfl : k = l.length := by omega
        have hgo2 := hgo.out
        rw [Nat.sub_self] at hgo2
        have hfull := hpr.out
        rw [pairCells_full hol.out] at hfull
        have HF := Lib.hid (row_base hfull hsz1)
        cases ops with
        | nil =>
          have HGO : Hid ((out, 0, 0) = R) := hgo2
          have HOL := Lib.hid hol.out
          clear hgo hgo2 hol hop hor hpr hfull
          go_wp2
          go_ret3
          exact ⟨_, by rw [← HGO.out]; rfl, by rw [← HGO.out, show (out, 0, 0).1.length = l.length from HOL.out]; exact HF.out, hB⟩
        | cons j rest =>
          have HGO : Hid (([], j, 4) = R) := hgo2
          have OB' : wr.ownsRow (w1.heap.size + 1) 3 1 (.slice ao (rest.length + 1 : Nat) cp) (rest.length + 1) (opCells (j :: rest)) := hor.out
          obtain ⟨g, c', he, hg1, hg2, hg3⟩ := row_form OB'
          simp only [Value.slice.injEq, true_and] at he
          obtain ⟨rfl, rfl⟩ := he
          have hcj : wr.cell? ⟨g, 0, none⟩ = some (.int .i64 (j : Int)) := (OB'.cellAt 0 (by omega)).trans rfl
          have d1 : decide ((rest.length : Int) + 1 > 0) = true := decide_eq_true (by omega)
          have io1 : (0 : Int) < (rest.length : Int) + 1 := by omega
          clear hgo hgo2 hol hop hor hpr hfull OB'
          go_wp2
          go_quiet (fail)
          go_wp2
          go_ret3
          exact ⟨_, by rw [← HGO.out]; rfl, by rw [← HGO.out]; exact World.ownsRow_nil _ _ _ _, below_drewN hB nq⟩
  · have ht : Lx.pairsOf l = ([], 0, Lx.listErr l) := by rw [Lx.pairsOf, if_pos h0]
    rw [ht]
    generalize Lx.listErr l = er at *
    have h0' : ((er : Int) != 0) = true := by rw [bne_iff_ne]; omega
    clear h0 ht hz hA hG
    go_enter Tryd.func31, Tryd.ntmps31
    go_wp2_with (go_at_call 56; refine HE.out.mono ?_; rintro e w1 ⟨rfl, hB1⟩)
    go_ret3
    exact ⟨_, rfl, World.ownsRow_nil _ _ _ _, hB1⟩
end Go.Proofs.YtchkngabppmbkaaDoor

/-
  WALKS: the reference's Pairs.
-/
namespace Go.Proofs.YtchkngabppmbkaaDoor
open Go.RowKit

/-- Two rows lie apart. -/
def Apart2 (a b : Value) : Prop := ∀ g, some g = a.ownBlock → some g = b.ownBlock → False
theorem row2_append {w0 W w5 : World} {B : Nat} {e : TypeId} {v v' u : Value} {n m n' : Nat} {xs ys xs' : List Value} {o : Obj} (h : W.ownsRow B e 1 v n xs) (hu : W.ownsRow B e 1 u m ys) (hap : Apart2 v u) (_ : w5.ownsRow B e 1 v' n' xs')
    (hg : (W.alloc o).grownBy w5 v.ownBlock) (hat : v'.ownBlock = v.ownBlock ∨ v'.ownBlock = some (W.alloc o).heap.size) (hB : Below B w0 W) (hBs : B ≤ W.heap.size) : w5.ownsRow B e 1 u m ys ∧ Apart2 v' u ∧ Below B w0 w5 := by
  have hsz := hg.size
  refine ⟨(hu.alloc o).kept hg ?_, fun g h1 h2 => ?_, (hB.alloc hBs o).trans ⟨hg.os, hg.tape, hg.output, hg.size, fun j hj => hg.block j (by simp; omega) (fun e => by have := (own_ltO h e).1; omega)⟩⟩
  · cases hn : u.ownBlock with
    | none => exact .inl rfl
    | some g => exact .inr fun e => hap g e hn.symm
  · rcases hat with hat | hat
    · exact hap g (by rw [h1, hat]) h2
    · rw [hat] at h1
      have h3 : g = (W.alloc o).heap.size := by injection h1
      have := (own_ltO hu h2).2
      rw [h3] at this; simp at this; omega
theorem Apart2.symm {a b : Value} (h : Apart2 a b) : Apart2 b a := fun g h1 h2 => h g h2 h1

theorem opCells_last (ops : List Nat) (j : Nat) : (opCells ops ++ [Value.int .i64 (j : Int)])[ops.length]? = some (.int .i64 (j : Int)) := by
  rw [List.getElem?_append_right (by simp [opCells])]
  simp [opCells]
theorem intCells_in {l : List Int} {j : Nat} (h : j < l.length) : ∃ z, (intCells l)[j]? = some (.int .i64 z) := ⟨l[j], by simp [intCells, h]⟩
theorem open_close {x : Lx.Tk} (h : Lx.bOpen x.text = true) : (x.text = ⟨#[40]⟩ ∧ closeOf x.text = ⟨#[41]⟩) ∨ (x.text = ⟨#[123]⟩ ∧ closeOf x.text = ⟨#[125]⟩) := by
  rcases of_decide_eq_true h with h | h <;> rw [h]
  · exact .inl ⟨rfl, by decide⟩
  · exact .inr ⟨rfl, by decide⟩
theorem close_none {t : ByteArray} (h : Lx.bOpen t = false) : closeOf t = ⟨#[]⟩ := by
  have := of_decide_eq_false h
  unfold closeOf
  rw [if_neg (fun e => this (.inl e)), if_neg (fun e => this (.inr e))]
/-- An open bracket's closing one, and a closing one's open one. -/
theorem close_open {y x : ByteArray} (hy : Lx.bOpen y = true) (hx : Lx.bShut x = true) : decide (closeOf y = x) = decide (y = Lx.opener x) := by
  rcases of_decide_eq_true hy with rfl | rfl <;> rcases of_decide_eq_true hx with rfl | rfl <;> decide

set_option maxRecDepth 100000 in
set_option maxHeartbeats 4000000 in
theorem refPairs_any (l : List Lx.Tk) (A : Option Addr) (c : Nat) (w : World) (hl : l.length ≤ 1152921504606846976) (hz : ∀ x ∈ l, x.text.size ≤ 281474976710656) (hA : Tks w w.heap.size A l) :
    Calls Tryd.prog 32 #[.slice A l.length c] w (PairsRet w (Lx.pairsOf l)) := by
  have HE := Lib.hid (refTokensError_any l A c w hl hz hA)
  obtain ⟨i0, hi, hz0, hz1, hz2⟩ := info_parts infoInt
  by_cases h0 : Lx.listErr l = 0
  · have h9 : l.length ≤ 900 := by
      unfold Lx.listErr at h0
      split at h0
      · cases h0
      · omega
    have hall : ∀ x ∈ l, Lx.tokOk x = true := by
      unfold Lx.listErr at h0
      rw [if_neg (by omega)] at h0
      cases ha : l.all Lx.tokOk
      · rw [ha, if_pos rfl] at h0; cases h0
      · exact fun x hx => List.all_eq_true.1 ha x hx
    have HALL := Lib.hid hall
    obtain ⟨R, hR⟩ : ∃ R, Lx.pairsGo l l.length 0 [] [] = R := ⟨_, rfl⟩
    rw [Lx.pairsOf, if_neg (by omega), hR]
    rw [h0] at HE
    have HR := Lib.hid hR
    have HA := Lib.hid hA
    clear hR hA hz h0 hall
    go_enter Tryd.func32, Tryd.ntmps32
    go_wp2_with (go_at_call 62; refine HE.out.mono ?_; rintro e w1 ⟨rfl, hB1⟩)
    have hsz1 := hB1.size
    go_loopw [6, 7, 8] (fun o p i wr => ∃ (k : Nat) (out : List Int) (ops : List Nat), k ≤ l.length ∧ i = .int .i64 k ∧ Hid (Lx.pairsGo l (l.length - k) k out ops = R) ∧ Hid (out.length = k) ∧ Hid (∀ j ∈ ops, j < k ∧ Lx.bOpen (Lx.textAt l j) = true) ∧ ops.length ≤ k ∧
      Hid (wr.ownsRow w1.heap.size 3 1 o out.length (intCells out)) ∧ Hid (wr.ownsRow w1.heap.size 3 1 p ops.length (opCells ops)) ∧ Hid (Apart2 o p) ∧ Below w1.heap.size w1 wr) (fun _ _ i _ => l.length - (intOf i).toNat)
    case atStart => exact ⟨0, [], [], Nat.zero_le _, rfl, HR.out, rfl, (fun j hj => by cases hj), Nat.zero_le _, World.ownsRow_nil _ _ _ _, World.ownsRow_nil _ _ _ _, (fun g h => by cases h), Below.refl _ _⟩
    case round =>
      obtain ⟨k, out, ops, hk, rfl, hgo, hol, hop, hopl, hoo, hor, hap, hB⟩ := hrel
      clear HE
      have hszr := hB.size
      by_cases hlt : k < l.length
      · have HTK : Hid (∀ (j : Nat) (x : Lx.Tk), l[j]? = some x → ∃ ba oa, A = some ⟨ba, oa, none⟩ ∧ ba < w.heap.size) := fun j x hx => by
          obtain ⟨ba, oa, hAe, hba, _⟩ := HA.out (by intro e; subst e; simp at hx)
          exact ⟨ba, oa, hAe, hba⟩
        obtain ⟨ba, oa, hAe, hba, hca⟩ := HA.out (by intro e; subst e; simp at hlt)
        cases hAe
        clear HTK
        have HC : Hid (∀ (W : World), Below w1.heap.size w1 W → ∀ (j : Nat) (x : Lx.Tk), l[j]? = some x → W.cell? ⟨ba, oa + j * 3, none⟩ = some (.int .u8 x.kind) ∧ W.cell? ⟨ba, oa + j * 3 + 1, none⟩ = some (.string x.text) ∧ W.cell? ⟨ba, oa + j * 3 + 2, none⟩ = some (.int .i64 x.pos)) := fun W hW j x hx => by
          have hb := hB1.trans (hW.mono hsz1)
          obtain ⟨y1, y2, y3⟩ := hca j x hx
          exact ⟨(hb.cell (p := ⟨ba, _, none⟩) hba).trans y1, (hb.cell (p := ⟨ba, _, none⟩) hba).trans y2, (hb.cell (p := ⟨ba, _, none⟩) hba).trans y3⟩
        obtain ⟨x, hx⟩ : ∃ x, l[k]? = some x := ⟨_, List.getElem?_eq_getElem hlt⟩
        have htx := textAt_get hx
        have hok := HALL.out x (List.mem_of_getElem? hx)
        have hf : l.length - k = (l.length - (k + 1)) + 1 := by omega
        have HX : Hid (∀ (W : World), Below w1.heap.size w1 W → W.cell? ⟨ba, oa + k * 3, none⟩ = some (.int .u8 x.kind) ∧ W.cell? ⟨ba, oa + k * 3 + 1, none⟩ = some (.string x.text) ∧ W.cell? ⟨ba, oa + k * 3 + 2, none⟩ = some (.int .i64 x.pos)) := fun W hW => HC.out W hW k x hx
        have HCL := Lib.hid (closing_any x)
        have OL := Lib.hid hol.out
        have hoo' := hoo.out
        rw [hol.out] at hoo'
        have HOO := Lib.hid hoo'
        have hi0 : (0 : Int) ≤ (k : Int) := by omega
        have hi1 : (k : Int) < (l.length : Int) := by omega
        have e41 := lit_eq x.text 41
        have e125 := lit_eq x.text 125
        clear hoo hoo' hca
        by_cases hb : Lx.bOpen (Lx.textAt l k) = true
        · have h4 := Lx.bracket_sign hok (.inl (by rw [← htx]; exact hb))
          have hgo2 := hgo.out
          rw [hf, Lx.pairsGo_open hb] at hgo2
          have HGO := Lib.hid hgo2
          have HBK := Lib.hid hb
          rw [if_pos h4] at HCL
          rw [htx] at hb
          have hoc := open_close hb
          clear hgo hgo2 hb htx hf hx hol hok h4 e41 e125
          have hno : ∀ (v' v7 : Value) (w7 : World), w7.ownsRow w1.heap.size 3 1 v7 (ops.length + 1) (opCells ops ++ [.int .i64 (k : Int)]) → w7.ownsRow w1.heap.size 3 1 v' (k + 1) (intCells out ++ [.int .i64 (-1)]) →
              Hid (w7.ownsRow w1.heap.size 3 1 v7 (ops ++ [k]).length (opCells (ops ++ [k]))) ∧ Hid (w7.ownsRow w1.heap.size 3 1 v' (out ++ [-1]).length (intCells (out ++ [-1]))) := fun v' v7 w7 h1 h2 => by
            constructor
            · rw [Hid, List.length_append, opCells, List.map_append]; exact h1
            · rw [Hid, List.length_append, OL.out, intCells, List.map_append]; exact h2
          have HNO := Lib.hid hno
          clear hno
          rcases hoc with ⟨-, hc2⟩ | ⟨-, hc2⟩
          · rw [hc2] at HCL
            clear hc2
            go_wp2_with (first
              | (at_builtin; go_loud (refine wpList_append_own_at _ rfl _ _ 41 rfl w1.heap.size 3 i0 (.int .i64 0) 1 8 Tryd.underlying41 hi hz0 hz1 hz2 rfl (by decide) _ _ _ rfl (HP6.out.alloc _) ⟨w6.heap.size, 0, none⟩ 1 1 [.int .i64 (k : Int)] rfl rfl (cell_one_atO _ _ rfl _ _) (by simp [Value.oneCell']) (by unfold maxLen; omega) (by omega) (by simp; omega) ?_); intro v7 w7 hown7 hg7 _ hat7; have D7 := row2_append HP6.out HO6.out (Apart2.symm D5.2.1) hown7 hg7 hat7 hB6w hB6s)
              | (go_at_call 65; refine (HCL.out w5).mono ?_; rintro e w6 ⟨rfl, hB6⟩; have hB6w := D5.2.2.trans (hB6.mono (Nat.le_trans hszr hsz5)); have hB6s := hB6w.size; have HP6 := Lib.hid (ownsRow_belowO D5.1 hB6); have HO6 := Lib.hid (ownsRow_belowO hown5 hB6))
              | (at_builtin; go_loud (refine wpList_append_own_at _ rfl _ _ 41 rfl w1.heap.size 3 i0 (.int .i64 0) 1 8 Tryd.underlying41 hi hz0 hz1 hz2 rfl (by decide) _ _ _ rfl (HOO.out.alloc _) ⟨wr.heap.size, 0, none⟩ 1 1 [.int .i64 (-1)] rfl rfl (cell_one_atO _ _ rfl _ _) (by simp [Value.oneCell']) (by unfold maxLen; omega) (by omega) (by simp; omega) ?_); intro v' w5 hown5 hg5 _ hat5; have D5 := row2_append HOO.out hor.out hap.out hown5 hg5 hat5 hB hszr; have hsz5 : wr.heap.size ≤ w5.heap.size := Nat.le_trans (by simp) hg5.size; obtain ⟨z1, z2, z3⟩ := HX.out w5 D5.2.2))
            obtain ⟨n1, n2⟩ := HNO.out _ _ _ hown7 D7.1
            go_roundw
            case rel => exact ⟨k + 1, out ++ [-1], ops ++ [k], by omega, by go_num, HGO, by rw [Hid, List.length_append, OL.out]; rfl, (fun j hj => by
              rcases List.mem_append.1 hj with h | h
              · exact ⟨Nat.lt_succ_of_lt (hop.out j h).1, (hop.out j h).2⟩
              · simp at h; subst h; exact ⟨Nat.lt_succ_self _, HBK.out⟩), by simp; omega, n2, n1, D7.2.1.symm, D7.2.2⟩
            case measure => simp [intOf]; omega
          · rw [hc2] at HCL
            clear hc2
            go_wp2_with (first
              | (at_builtin; go_loud (refine wpList_append_own_at _ rfl _ _ 41 rfl w1.heap.size 3 i0 (.int .i64 0) 1 8 Tryd.underlying41 hi hz0 hz1 hz2 rfl (by decide) _ _ _ rfl (HP6.out.alloc _) ⟨w6.heap.size, 0, none⟩ 1 1 [.int .i64 (k : Int)] rfl rfl (cell_one_atO _ _ rfl _ _) (by simp [Value.oneCell']) (by unfold maxLen; omega) (by omega) (by simp; omega) ?_); intro v7 w7 hown7 hg7 _ hat7; have D7 := row2_append HP6.out HO6.out (Apart2.symm D5.2.1) hown7 hg7 hat7 hB6w hB6s)
              | (go_at_call 65; refine (HCL.out w5).mono ?_; rintro e w6 ⟨rfl, hB6⟩; have hB6w := D5.2.2.trans (hB6.mono (Nat.le_trans hszr hsz5)); have hB6s := hB6w.size; have HP6 := Lib.hid (ownsRow_belowO D5.1 hB6); have HO6 := Lib.hid (ownsRow_belowO hown5 hB6))
              | (at_builtin; go_loud (refine wpList_append_own_at _ rfl _ _ 41 rfl w1.heap.size 3 i0 (.int .i64 0) 1 8 Tryd.underlying41 hi hz0 hz1 hz2 rfl (by decide) _ _ _ rfl (HOO.out.alloc _) ⟨wr.heap.size, 0, none⟩ 1 1 [.int .i64 (-1)] rfl rfl (cell_one_atO _ _ rfl _ _) (by simp [Value.oneCell']) (by unfold maxLen; omega) (by omega) (by simp; omega) ?_); intro v' w5 hown5 hg5 _ hat5; have D5 := row2_append HOO.out hor.out hap.out hown5 hg5 hat5 hB hszr; have hsz5 : wr.heap.size ≤ w5.heap.size := Nat.le_trans (by simp) hg5.size; obtain ⟨z1, z2, z3⟩ := HX.out w5 D5.2.2))
            obtain ⟨n1, n2⟩ := HNO.out _ _ _ hown7 D7.1
            go_roundw
            case rel => exact ⟨k + 1, out ++ [-1], ops ++ [k], by omega, by go_num, HGO, by rw [Hid, List.length_append, OL.out]; rfl, (fun j hj => by
              rcases List.mem_append.1 hj with h | h
              · exact ⟨Nat.lt_succ_of_lt (hop.out j h).1, (hop.out j h).2⟩
              · simp at h; subst h; exact ⟨Nat.lt_succ_self _, HBK.out⟩), by simp; omega, n2, n1, D7.2.1.symm, D7.2.2⟩
            case measure => simp [intOf]; omega
        · have hb' : Lx.bOpen (Lx.textAt l k) = false := by simpa using hb
          have hcl : (if x.kind = 4 then closeOf x.text else ⟨#[]⟩) = (⟨#[]⟩ : ByteArray) := by
            have h := hb'
            rw [htx] at h
            rw [close_none h]; simp
          rw [hcl] at HCL
          by_cases hs : Lx.bShut (Lx.textAt l k) = true
          · have hgo2' := hgo.out
            have hbs : Lx.bShut x.text = true := by rw [← htx]; exact hs
            have hsh := of_decide_eq_true hbs
            have hsh2 : x.text = ⟨#[41]⟩ ∨ (x.text ≠ ⟨#[41]⟩ ∧ x.text = ⟨#[125]⟩) := by
              by_cases h : x.text = ⟨#[41]⟩
              · exact .inl h
              · exact .inr ⟨h, hsh.resolve_left h⟩
            have HSH := Lib.hid hsh2
            obtain ⟨ap, cp, hp⟩ := own_formO hor.out
            subst hp
            have hB1w := hB1
            have HBW : Hid (∀ W, Below w1.heap.size w1 W → Below w.heap.size w W) := fun W h => hB1.trans (h.mono hsz1)
            rcases last_or ops with rfl | ⟨ops, j, rfl⟩
            · rw [hf, Lx.pairsGo_bad hb' hs rfl] at hgo2'
              have HGO := Lib.hid hgo2'
              clear hgo hgo2' hb hb' hs htx hf hx hol hcl hok hbs hsh hsh2 hop
              rcases HSH.out with h2 | ⟨h2, h3⟩
              · rw [decide_eq_true h2] at e41
                clear h2 e125
                go_wp2_with (first
                  | (go_at_call 65; refine (HCL.out w5).mono ?_; rintro e w6 ⟨rfl, hB6⟩; have hB6w := D5.2.2.trans (hB6.mono (Nat.le_trans hszr hsz5)); have hB6s := hB6w.size; obtain ⟨y1, y2, y3⟩ := HX.out w6 hB6w; have HO6 := Lib.hid (ownsRow_belowO hown5 hB6); have HP6 := Lib.hid (ownsRow_belowO D5.1 hB6))
                  | (at_builtin; go_loud (refine wpList_append_own_at _ rfl _ _ 41 rfl w1.heap.size 3 i0 (.int .i64 0) 1 8 Tryd.underlying41 hi hz0 hz1 hz2 rfl (by decide) _ _ _ rfl (HOO.out.alloc _) ⟨wr.heap.size, 0, none⟩ 1 1 [.int .i64 (-1)] rfl rfl (cell_one_atO _ _ rfl _ _) (by simp [Value.oneCell']) (by unfold maxLen; omega) (by omega) (by simp; omega) ?_); intro v' w5 hown5 hg5 _ hat5; have D5 := row2_append HOO.out hor.out hap.out hown5 hg5 hat5 hB hszr; have hsz5 : wr.heap.size ≤ w5.heap.size := Nat.le_trans (by simp) hg5.size; obtain ⟨z1, z2, z3⟩ := HX.out w5 D5.2.2; obtain ⟨go5, co, hv5, hgo1, hgo2, hgo3⟩ := row_form hown5; subst hv5))
                go_quiet (fail)
                go_wp2
                go_ret3
                exact ⟨_, by rw [← HGO.out]; rfl, by rw [← HGO.out]; exact World.ownsRow_nil _ _ _ _, below_drewN (HBW.out _ hB6w) nq⟩
              · rw [decide_eq_false h2] at e41
                rw [decide_eq_true h3] at e125
                clear h2 h3
                go_wp2_with (first
                  | (go_at_call 65; refine (HCL.out w5).mono ?_; rintro e w6 ⟨rfl, hB6⟩; have hB6w := D5.2.2.trans (hB6.mono (Nat.le_trans hszr hsz5)); have hB6s := hB6w.size; obtain ⟨y1, y2, y3⟩ := HX.out w6 hB6w; have HO6 := Lib.hid (ownsRow_belowO hown5 hB6); have HP6 := Lib.hid (ownsRow_belowO D5.1 hB6))
                  | (at_builtin; go_loud (refine wpList_append_own_at _ rfl _ _ 41 rfl w1.heap.size 3 i0 (.int .i64 0) 1 8 Tryd.underlying41 hi hz0 hz1 hz2 rfl (by decide) _ _ _ rfl (HOO.out.alloc _) ⟨wr.heap.size, 0, none⟩ 1 1 [.int .i64 (-1)] rfl rfl (cell_one_atO _ _ rfl _ _) (by simp [Value.oneCell']) (by unfold maxLen; omega) (by omega) (by simp; omega) ?_); intro v' w5 hown5 hg5 _ hat5; have D5 := row2_append HOO.out hor.out hap.out hown5 hg5 hat5 hB hszr; have hsz5 : wr.heap.size ≤ w5.heap.size := Nat.le_trans (by simp) hg5.size; obtain ⟨z1, z2, z3⟩ := HX.out w5 D5.2.2; obtain ⟨go5, co, hv5, hgo1, hgo2, hgo3⟩ := row_form hown5; subst hv5))
                go_quiet (fail)
                go_wp2
                go_ret3
                exact ⟨_, by rw [← HGO.out]; rfl, by rw [← HGO.out]; exact World.ownsRow_nil _ _ _ _, below_drewN (HBW.out _ hB6w) nq⟩
            · have OB' : wr.ownsRow w1.heap.size 3 1 (.slice ap (ops.length + 1 : Nat) cp) (ops.length + 1) (opCells ops ++ [.int .i64 (j : Int)]) := by
                have h := hor.out
                rw [List.length_append, opCells, List.map_append] at h
                exact h
              obtain ⟨g, c', he, hg1, hg2, hg3⟩ := row_form OB'
              simp only [Value.slice.injEq, true_and] at he
              obtain ⟨rfl, rfl⟩ := he
              obtain ⟨hjk, hjb⟩ := hop.out j (by simp)
              have hopn : ops.length + 1 ≤ k := by simpa using hopl
              obtain ⟨y, hy⟩ : ∃ y, l[j]? = some y := ⟨_, List.getElem?_eq_getElem (by omega)⟩
              have hty := textAt_get hy
              rw [hty] at hjb
              have hok2 := HALL.out y (List.mem_of_getElem? hy)
              have HY : Hid (∀ (W : World), Below w1.heap.size w1 W → W.cell? ⟨ba, oa + j * 3, none⟩ = some (.int .u8 y.kind) ∧ W.cell? ⟨ba, oa + j * 3 + 1, none⟩ = some (.string y.text) ∧ W.cell? ⟨ba, oa + j * 3 + 2, none⟩ = some (.int .i64 y.pos)) := fun W hW => HC.out W hW j y hy
              have HCY := fun W => closing_any y W
              rw [if_pos (Lx.bracket_sign hok2 (.inl hjb))] at HCY
              have hfit : decide (closeOf y.text = x.text) = Lx.fitsAt l (ops ++ [j]) k := by rw [fits_last, htx, hty]; exact close_open hjb hbs
              have ec := str_eq (closeOf y.text) x.text
              rw [hfit] at ec
              generalize closeOf y.text = cy at *
              have HCY := Lib.hid HCY
              have hj0 : (0 : Int) ≤ (j : Int) := by omega
              have hj1 : (j : Int) < (l.length : Int) := by omega
              have q0 : (((ops.length : Int) + 1) == 0) = false := by rw [beq_eq_false_iff_ne]; omega
              have hw : IntKind.i64.wrap ((ops.length : Int) + 1 - 1) = (ops.length : Int) := by rw [IntWalk.i64_in _ (by omega)]; omega
              have hw2 : IntKind.i64.wrap (ops.length : Int) = (ops.length : Int) := IntWalk.i64_in _ (by omega)
              have io0 : (0 : Int) ≤ (ops.length : Int) := by omega
              have io1 : (ops.length : Int) < (ops.length : Int) + 1 := by omega
              have OP2 : Hid (∀ i ∈ ops, i < k ∧ Lx.bOpen (Lx.textAt l i) = true) := fun i hi => hop.out i (by simp [hi])
              cases hft : Lx.fitsAt l (ops ++ [j]) k
              · rw [hf, Lx.pairsGo_bad hb' hs hft] at hgo2'
                rw [hft] at ec
                have HGO := Lib.hid hgo2'
                clear hgo hgo2' hb hb' hs htx hf hx hol hcl hok hbs hsh hsh2 hop hy hty hok2 hfit hft hjb
                rcases HSH.out with h2 | ⟨h2, h3⟩
                · rw [decide_eq_true h2] at e41
                  clear h2 e125
                  go_wp2_with (first
                    | (go_at_call 65; refine (HCL.out w5).mono ?_; rintro e w6 ⟨rfl, hB6⟩; have hB6w := D5.2.2.trans (hB6.mono (Nat.le_trans hszr hsz5)); have hB6s := hB6w.size; obtain ⟨y1, y2, y3⟩ := HX.out w6 hB6w; have HO6 := Lib.hid (ownsRow_belowO hown5 hB6); have HP6 := Lib.hid (ownsRow_belowO D5.1 hB6); have hcj := (HP6.out.cellAt ops.length (by omega)).trans (opCells_last ops j); obtain ⟨u1, u2, u3⟩ := HY.out w6 hB6w)
                    | (at_builtin; go_loud (refine wpList_append_own_at _ rfl _ _ 41 rfl w1.heap.size 3 i0 (.int .i64 0) 1 8 Tryd.underlying41 hi hz0 hz1 hz2 rfl (by decide) _ _ _ rfl (HOO.out.alloc _) ⟨wr.heap.size, 0, none⟩ 1 1 [.int .i64 (-1)] rfl rfl (cell_one_atO _ _ rfl _ _) (by simp [Value.oneCell']) (by unfold maxLen; omega) (by omega) (by simp; omega) ?_); intro v' w5 hown5 hg5 _ hat5; have D5 := row2_append HOO.out OB' hap.out hown5 hg5 hat5 hB hszr; have hsz5 : wr.heap.size ≤ w5.heap.size := Nat.le_trans (by simp) hg5.size; obtain ⟨z1, z2, z3⟩ := HX.out w5 D5.2.2; obtain ⟨go5, co, hv5, hgo1, hgo2, hgo3⟩ := row_form hown5; subst hv5))
                  go_region_held3 (fun w' => w'.cell? ⟨g, ops.length, none⟩ = some (.int .i64 (j : Int)) ∧ w'.cell? ⟨ba, oa + j * 3, none⟩ = some (.int .u8 y.kind) ∧ w'.cell? ⟨ba, oa + j * 3 + 1, none⟩ = some (.string y.text) ∧ w'.cell? ⟨ba, oa + j * 3 + 2, none⟩ = some (.int .i64 y.pos) ∧ w'.cell? ⟨ba, oa + k * 3 + 1, none⟩ = some (.string x.text))
                    (first | exact ⟨hcj, u1, u2, u3, y2⟩ | exact ⟨hcj8, p1, p2, p3, r2⟩ | go_keep)
                    ((go_at_call 65; refine (HCY.out _).mono ?_; rintro e w8 ⟨rfl, hB8⟩; have hB68 : Below w6.heap.size w6 w8 := (Below.refl _ w6).drew.trans hB8; have hB8w := hB6w.trans (hB68.mono hB6s); obtain ⟨p1, p2, p3⟩ := HY.out w8 hB8w; obtain ⟨r1, r2, r3⟩ := HX.out w8 hB8w; have hcj8 := (hB68.cell (p := ⟨g, _, none⟩) (row_lt HP6.out).1).trans hcj))
                  go_wp2
                  go_ret3
                  exact ⟨_, by rw [← HGO.out]; rfl, by rw [← HGO.out]; exact World.ownsRow_nil _ _ _ _, HBW.out _ (by repeat (first | assumption | refine Below.drew ?_ | refine below_drewN ?_ _))⟩
                · rw [decide_eq_false h2] at e41
                  rw [decide_eq_true h3] at e125
                  clear h2 h3
                  go_wp2_with (first
                    | (go_at_call 65; refine (HCL.out w5).mono ?_; rintro e w6 ⟨rfl, hB6⟩; have hB6w := D5.2.2.trans (hB6.mono (Nat.le_trans hszr hsz5)); have hB6s := hB6w.size; obtain ⟨y1, y2, y3⟩ := HX.out w6 hB6w; have HO6 := Lib.hid (ownsRow_belowO hown5 hB6); have HP6 := Lib.hid (ownsRow_belowO D5.1 hB6); have hcj := (HP6.out.cellAt ops.length (by omega)).trans (opCells_last ops j); obtain ⟨u1, u2, u3⟩ := HY.out w6 hB6w)
                    | (at_builtin; go_loud (refine wpList_append_own_at _ rfl _ _ 41 rfl w1.heap.size 3 i0 (.int .i64 0) 1 8 Tryd.underlying41 hi hz0 hz1 hz2 rfl (by decide) _ _ _ rfl (HOO.out.alloc _) ⟨wr.heap.size, 0, none⟩ 1 1 [.int .i64 (-1)] rfl rfl (cell_one_atO _ _ rfl _ _) (by simp [Value.oneCell']) (by unfold maxLen; omega) (by omega) (by simp; omega) ?_); intro v' w5 hown5 hg5 _ hat5; have D5 := row2_append HOO.out OB' hap.out hown5 hg5 hat5 hB hszr; have hsz5 : wr.heap.size ≤ w5.heap.size := Nat.le_trans (by simp) hg5.size; obtain ⟨z1, z2, z3⟩ := HX.out w5 D5.2.2; obtain ⟨go5, co, hv5, hgo1, hgo2, hgo3⟩ := row_form hown5; subst hv5))
                  go_region_held3 (fun w' => w'.cell? ⟨g, ops.length, none⟩ = some (.int .i64 (j : Int)) ∧ w'.cell? ⟨ba, oa + j * 3, none⟩ = some (.int .u8 y.kind) ∧ w'.cell? ⟨ba, oa + j * 3 + 1, none⟩ = some (.string y.text) ∧ w'.cell? ⟨ba, oa + j * 3 + 2, none⟩ = some (.int .i64 y.pos) ∧ w'.cell? ⟨ba, oa + k * 3 + 1, none⟩ = some (.string x.text))
                    (first | exact ⟨hcj, u1, u2, u3, y2⟩ | exact ⟨hcj8, p1, p2, p3, r2⟩ | go_keep)
                    ((go_at_call 65; refine (HCY.out _).mono ?_; rintro e w8 ⟨rfl, hB8⟩; have hB68 : Below w6.heap.size w6 w8 := (Below.refl _ w6).drew.trans hB8; have hB8w := hB6w.trans (hB68.mono hB6s); obtain ⟨p1, p2, p3⟩ := HY.out w8 hB8w; obtain ⟨r1, r2, r3⟩ := HX.out w8 hB8w; have hcj8 := (hB68.cell (p := ⟨g, _, none⟩) (row_lt HP6.out).1).trans hcj))
                  go_wp2
                  go_ret3
                  exact ⟨_, by rw [← HGO.out]; rfl, by rw [← HGO.out]; exact World.ownsRow_nil _ _ _ _, HBW.out _ (by repeat (first | assumption | refine Below.drew ?_ | refine below_drewN ?_ _))⟩
              · rw [hf, Lx.pairsGo_fits hb' hs hft] at hgo2'
                rw [hft] at ec
                have HGO := Lib.hid hgo2'
                have hlen1 : (out ++ [(-1 : Int)]).length = k + 1 := by rw [List.length_append, hol.out]; rfl
                have hlen2 : (((out ++ [(-1 : Int)]).set k (j : Int)).set j (k : Int)).length = k + 1 := by rw [List.length_set, List.length_set]; exact hlen1
                obtain ⟨z1, hz1k⟩ := intCells_in (l := out ++ [-1]) (j := k) (by omega)
                obtain ⟨z2, hz2j⟩ := intCells_in (l := out ++ [-1]) (j := j) (by omega)
                have HZ1 := Lib.hid hz1k; have HZ2 := Lib.hid hz2j; have HL2 := Lib.hid hlen2
                have hap2 : intCells (out ++ [(-1 : Int)]) = intCells out ++ [.int .i64 (-1)] := by rw [intCells, List.map_append]; rfl
                have HAP := Lib.hid hap2
                clear hlen1 hlen2 hz1k hz2j hap2
                clear hgo hgo2' hb hb' hs htx hf hx hol hcl hok hbs hsh hsh2 hop hy hty hok2 hfit hft hjb
                rcases HSH.out with h2 | ⟨h2, h3⟩
                · rw [decide_eq_true h2] at e41
                  clear h2 e125
                  go_wp2_with (first
                    | (go_at_call 65; refine (HCL.out w5).mono ?_; rintro e w6 ⟨rfl, hB6⟩; have hB6w := D5.2.2.trans (hB6.mono (Nat.le_trans hszr hsz5)); have hB6s := hB6w.size; obtain ⟨y1, y2, y3⟩ := HX.out w6 hB6w; have HO6 := Lib.hid (ownsRow_belowO hown5 hB6); have HP6 := Lib.hid (ownsRow_belowO D5.1 hB6); have hcj := (HP6.out.cellAt ops.length (by omega)).trans (opCells_last ops j); obtain ⟨u1, u2, u3⟩ := HY.out w6 hB6w)
                    | (at_builtin; go_loud (refine wpList_append_own_at _ rfl _ _ 41 rfl w1.heap.size 3 i0 (.int .i64 0) 1 8 Tryd.underlying41 hi hz0 hz1 hz2 rfl (by decide) _ _ _ rfl (HOO.out.alloc _) ⟨wr.heap.size, 0, none⟩ 1 1 [.int .i64 (-1)] rfl rfl (cell_one_atO _ _ rfl _ _) (by simp [Value.oneCell']) (by unfold maxLen; omega) (by omega) (by simp; omega) ?_); intro v' w5 hown5 hg5 _ hat5; have D5 := row2_append HOO.out OB' hap.out hown5 hg5 hat5 hB hszr; have hsz5 : wr.heap.size ≤ w5.heap.size := Nat.le_trans (by simp) hg5.size; obtain ⟨z1, z2, z3⟩ := HX.out w5 D5.2.2; obtain ⟨go5, co, hv5, hgo1, hgo2, hgo3⟩ := row_form hown5; subst hv5))
                  go_region_held3 (fun w' => w'.cell? ⟨g, ops.length, none⟩ = some (.int .i64 (j : Int)) ∧ w'.cell? ⟨ba, oa + j * 3, none⟩ = some (.int .u8 y.kind) ∧ w'.cell? ⟨ba, oa + j * 3 + 1, none⟩ = some (.string y.text) ∧ w'.cell? ⟨ba, oa + j * 3 + 2, none⟩ = some (.int .i64 y.pos) ∧ w'.cell? ⟨ba, oa + k * 3 + 1, none⟩ = some (.string x.text))
                    (first | exact ⟨hcj, u1, u2, u3, y2⟩ | exact ⟨hcj8, p1, p2, p3, r2⟩ | go_keep)
                    ((go_at_call 65; refine (HCY.out _).mono ?_; rintro e w8 ⟨rfl, hB8⟩; have hB68 : Below w6.heap.size w6 w8 := (Below.refl _ w6).drew.trans hB8; have hB8w := hB6w.trans (hB68.mono hB6s); obtain ⟨p1, p2, p3⟩ := HY.out w8 hB8w; obtain ⟨r1, r2, r3⟩ := HX.out w8 hB8w; have hcj8 := (hB68.cell (p := ⟨g, _, none⟩) (row_lt HP6.out).1).trans hcj))
                  go_wp2
                  have HO8 := ownsRow_belowO HO6.out hB68
                  have HP8 := ops_shrink (ownsRow_belowO HP6.out hB68)
                  rw [← HAP.out] at HO8
                  have hne : g ≠ go5 := fun e => D5.2.1 go5 rfl (by rw [← e]; rfl)
                  have ck := (HO8.cellAt k (by omega)).trans HZ1.out
                  have cj := (HO8.cellAt j (by omega)).trans HZ2.out
                  have fk := HO8.frozenAt k
                  have fj := HO8.frozenAt j
                  have r3 := ((HO8.stored k (.int .i64 (j : Int))).1.stored j (.int .i64 (k : Int))).1
                  have hset : ((intCells (out ++ [-1])).set k (.int .i64 (j : Int))).set j (.int .i64 (k : Int)) = intCells (((out ++ [-1]).set k (j : Int)).set j (k : Int)) := by
                    rw [intCells, intCells, List.map_set, List.map_set]
                  rw [hset] at r3
                  have R3 := Lib.hid r3
                  have hn1 : (Value.slice (some ⟨g, 0, none⟩) ops.length cp).ownBlock ≠ some go5 := fun e => hne (by injection e)
                  have P3 := Lib.hid (ownsRow_setCell_other (ownsRow_setCell_other HP8 (a := ⟨go5, k, none⟩) hn1 (.int .i64 (j : Int))) (a := ⟨go5, j, none⟩) hn1 (.int .i64 (k : Int)))
                  have B9 := Lib.hid ((hB8w.setCell (p := ⟨go5, k, none⟩) hgo1 (.int .i64 (j : Int))).setCell (p := ⟨go5, j, none⟩) hgo1 (.int .i64 (k : Int)))
                  have AP := Lib.hid D5.2.1
                  have hjn : j ≠ k := by omega
                  have hjn2 : k ≠ j := by omega
                  have ik1 : (k : Int) < (k : Int) + 1 := by omega
                  have ik2 : (k : Int) < ((k + 1 : Nat) : Int) := by omega
                  have ij1 : (j : Int) < (k : Int) + 1 := by omega
                  have ij2 : (j : Int) < ((k + 1 : Nat) : Int) := by omega
                  have io2 : (ops.length : Int) ≤ (cp : Int) := by omega
                  clear r3 hset hn1 HO8 HP8 hown5 hB6 hB8 hB68 hB6w hB8w
                  go_region_held3 (fun _ => True) (first | exact trivial | trivial) ((fail))
                  go_wp2
                  go_roundw
                  case rel =>
                    exact ⟨k + 1, ((out ++ [-1]).set k (j : Int)).set j (k : Int), ops, by omega, by go_num, HGO, HL2, (fun i hi => ⟨Nat.lt_succ_of_lt (OP2.out i hi).1, (OP2.out i hi).2⟩), by omega, by rw [Hid, HL2.out]; exact ownsRow_belowO R3.out (Below.refl _ _).drew, ownsRow_belowO P3.out (Below.refl _ _).drew, AP.out, B9.out.drew⟩
                  case measure => simp [intOf]; omega
                · rw [decide_eq_false h2] at e41
                  rw [decide_eq_true h3] at e125
                  clear h2 h3
                  go_wp2_with (first
                    | (go_at_call 65; refine (HCL.out w5).mono ?_; rintro e w6 ⟨rfl, hB6⟩; have hB6w := D5.2.2.trans (hB6.mono (Nat.le_trans hszr hsz5)); have hB6s := hB6w.size; obtain ⟨y1, y2, y3⟩ := HX.out w6 hB6w; have HO6 := Lib.hid (ownsRow_belowO hown5 hB6); have HP6 := Lib.hid (ownsRow_belowO D5.1 hB6); have hcj := (HP6.out.cellAt ops.length (by omega)).trans (opCells_last ops j); obtain ⟨u1, u2, u3⟩ := HY.out w6 hB6w)
                    | (at_builtin; go_loud (refine wpList_append_own_at _ rfl _ _ 41 rfl w1.heap.size 3 i0 (.int .i64 0) 1 8 Tryd.underlying41 hi hz0 hz1 hz2 rfl (by decide) _ _ _ rfl (HOO.out.alloc _) ⟨wr.heap.size, 0, none⟩ 1 1 [.int .i64 (-1)] rfl rfl (cell_one_atO _ _ rfl _ _) (by simp [Value.oneCell']) (by unfold maxLen; omega) (by omega) (by simp; omega) ?_); intro v' w5 hown5 hg5 _ hat5; have D5 := row2_append HOO.out OB' hap.out hown5 hg5 hat5 hB hszr; have hsz5 : wr.heap.size ≤ w5.heap.size := Nat.le_trans (by simp) hg5.size; obtain ⟨z1, z2, z3⟩ := HX.out w5 D5.2.2; obtain ⟨go5, co, hv5, hgo1, hgo2, hgo3⟩ := row_form hown5; subst hv5))
                  go_region_held3 (fun w' => w'.cell? ⟨g, ops.length, none⟩ = some (.int .i64 (j : Int)) ∧ w'.cell? ⟨ba, oa + j * 3, none⟩ = some (.int .u8 y.kind) ∧ w'.cell? ⟨ba, oa + j * 3 + 1, none⟩ = some (.string y.text) ∧ w'.cell? ⟨ba, oa + j * 3 + 2, none⟩ = some (.int .i64 y.pos) ∧ w'.cell? ⟨ba, oa + k * 3 + 1, none⟩ = some (.string x.text))
                    (first | exact ⟨hcj, u1, u2, u3, y2⟩ | exact ⟨hcj8, p1, p2, p3, r2⟩ | go_keep)
                    ((go_at_call 65; refine (HCY.out _).mono ?_; rintro e w8 ⟨rfl, hB8⟩; have hB68 : Below w6.heap.size w6 w8 := (Below.refl _ w6).drew.trans hB8; have hB8w := hB6w.trans (hB68.mono hB6s); obtain ⟨p1, p2, p3⟩ := HY.out w8 hB8w; obtain ⟨r1, r2, r3⟩ := HX.out w8 hB8w; have hcj8 := (hB68.cell (p := ⟨g, _, none⟩) (row_lt HP6.out).1).trans hcj))
                  go_wp2
                  have HO8 := ownsRow_belowO HO6.out hB68
                  have HP8 := ops_shrink (ownsRow_belowO HP6.out hB68)
                  rw [← HAP.out] at HO8
                  have hne : g ≠ go5 := fun e => D5.2.1 go5 rfl (by rw [← e]; rfl)
                  have ck := (HO8.cellAt k (by omega)).trans HZ1.out
                  have cj := (HO8.cellAt j (by omega)).trans HZ2.out
                  have fk := HO8.frozenAt k
                  have fj := HO8.frozenAt j
                  have r3 := ((HO8.stored k (.int .i64 (j : Int))).1.stored j (.int .i64 (k : Int))).1
                  have hset : ((intCells (out ++ [-1])).set k (.int .i64 (j : Int))).set j (.int .i64 (k : Int)) = intCells (((out ++ [-1]).set k (j : Int)).set j (k : Int)) := by
                    rw [intCells, intCells, List.map_set, List.map_set]
                  rw [hset] at r3
                  have R3 := Lib.hid r3
                  have hn1 : (Value.slice (some ⟨g, 0, none⟩) ops.length cp).ownBlock ≠ some go5 := fun e => hne (by injection e)
                  have P3 := Lib.hid (ownsRow_setCell_other (ownsRow_setCell_other HP8 (a := ⟨go5, k, none⟩) hn1 (.int .i64 (j : Int))) (a := ⟨go5, j, none⟩) hn1 (.int .i64 (k : Int)))
                  have B9 := Lib.hid ((hB8w.setCell (p := ⟨go5, k, none⟩) hgo1 (.int .i64 (j : Int))).setCell (p := ⟨go5, j, none⟩) hgo1 (.int .i64 (k : Int)))
                  have AP := Lib.hid D5.2.1
                  have hjn : j ≠ k := by omega
                  have hjn2 : k ≠ j := by omega
                  have ik1 : (k : Int) < (k : Int) + 1 := by omega
                  have ik2 : (k : Int) < ((k + 1 : Nat) : Int) := by omega
                  have ij1 : (j : Int) < (k : Int) + 1 := by omega
                  have ij2 : (j : Int) < ((k + 1 : Nat) : Int) := by omega
                  have io2 : (ops.length : Int) ≤ (cp : Int) := by omega
                  clear r3 hset hn1 HO8 HP8 hown5 hB6 hB8 hB68 hB6w hB8w
                  go_region_held3 (fun _ => True) (first | exact trivial | trivial) ((fail))
                  go_wp2
                  go_roundw
                  case rel =>
                    exact ⟨k + 1, ((out ++ [-1]).set k (j : Int)).set j (k : Int), ops, by omega, by go_num, HGO, HL2, (fun i hi => ⟨Nat.lt_succ_of_lt (OP2.out i hi).1, (OP2.out i hi).2⟩), by omega, by rw [Hid, HL2.out]; exact ownsRow_belowO R3.out (Below.refl _ _).drew, ownsRow_belowO P3.out (Below.refl _ _).drew, AP.out, B9.out.drew⟩
                  case measure => simp [intOf]; omega
          · have hs' : Lx.bShut (Lx.textAt l k) = false := by simpa using hs
            have hgo2 := hgo.out
            rw [hf, Lx.pairsGo_other hb' hs'] at hgo2
            have HGO := Lib.hid hgo2
            rw [htx] at hs'
            have n2 := of_decide_eq_false hs'
            rw [decide_eq_false (fun h => n2 (.inl h))] at e41
            rw [decide_eq_false (fun h => n2 (.inr h))] at e125
            clear hgo hgo2 hb hb' hs hs' htx hf hx n2 hol hcl hok
            go_wp2_with (first
              | (go_at_call 65; refine (HCL.out w5).mono ?_; rintro e w6 ⟨rfl, hB6⟩; obtain ⟨y1, y2, y3⟩ := HX.out w6 (D5.2.2.trans (hB6.mono (Nat.le_trans hszr hsz5))))
              | (at_builtin; go_loud (refine wpList_append_own_at _ rfl _ _ 41 rfl w1.heap.size 3 i0 (.int .i64 0) 1 8 Tryd.underlying41 hi hz0 hz1 hz2 rfl (by decide) _ _ _ rfl (HOO.out.alloc _) ⟨wr.heap.size, 0, none⟩ 1 1 [.int .i64 (-1)] rfl rfl (cell_one_atO _ _ rfl _ _) (by simp [Value.oneCell']) (by unfold maxLen; omega) (by omega) (by simp; omega) ?_); intro v' w5 hown5 hg5 _ hat5; have D5 := row2_append HOO.out hor.out hap.out hown5 hg5 hat5 hB hszr; have hsz5 : wr.heap.size ≤ w5.heap.size := Nat.le_trans (by simp) hg5.size; obtain ⟨z1, z2, z3⟩ := HX.out w5 D5.2.2))
            go_roundw
            case rel =>
              refine ⟨k + 1, out ++ [-1], ops, by omega, by go_num, HGO, by rw [Hid, List.length_append, OL.out]; rfl, (fun j hj => ⟨Nat.lt_succ_of_lt (hop.out j hj).1, (hop.out j hj).2⟩), by omega, ?_, ownsRow_belowO D5.1 hB6, D5.2.1, D5.2.2.trans (hB6.mono (Nat.le_trans hszr hsz5))⟩
              have h := ownsRow_belowO hown5 hB6
              rw [Hid, List.length_append, OL.out, intCells, List.map_append]; exact h
            case measure => simp [intOf]; omega
      · obtain rfl : k = l.length := by omega
        have hgo2 := hgo.out
        rw [Nat.sub_self] at hgo2
        have HF := Lib.hid (row_base hoo.out hsz1)
        have hBw : Below w.heap.size w wr := hB1.trans (hB.mono hsz1)
        obtain ⟨ao, cp, ho⟩ := own_formO hor.out
        subst ho
        cases ops with
        | nil =>
          have HGO : Hid ((out, 0, 0) = R) := hgo2
          clear hgo hgo2 hol hop hor hoo hap
          go_wp2
          go_ret3
          exact ⟨_, by rw [← HGO.out]; rfl, by rw [← HGO.out]; exact HF.out, hBw⟩
        | cons j rest =>
          have HGO : Hid (([], j, 4) = R) := hgo2
          have OB' : wr.ownsRow w1.heap.size 3 1 (.slice ao (rest.length + 1 : Nat) cp) (rest.length + 1) (opCells (j :: rest)) := hor.out
          obtain ⟨g, c', he, hg1, hg2, hg3⟩ := row_form OB'
          simp only [Value.slice.injEq, true_and] at he
          obtain ⟨rfl, rfl⟩ := he
          have hcj : wr.cell? ⟨g, 0, none⟩ = some (.int .i64 (j : Int)) := (OB'.cellAt 0 (by omega)).trans rfl
          have d1 : decide ((rest.length : Int) + 1 > 0) = true := decide_eq_true (by omega)
          have io1 : (0 : Int) < (rest.length : Int) + 1 := by omega
          clear hgo hgo2 hol hop hor hoo hap OB'
          go_wp2
          go_quiet (fail)
          go_wp2
          go_ret3
          exact ⟨_, by rw [← HGO.out]; rfl, by rw [← HGO.out]; exact World.ownsRow_nil _ _ _ _, below_drewN hBw nq⟩
  · have ht : Lx.pairsOf l = ([], 0, Lx.listErr l) := by rw [Lx.pairsOf, if_pos h0]
    rw [ht]
    generalize Lx.listErr l = er at *
    have h0' : ((er : Int) != 0) = true := by rw [bne_iff_ne]; omega
    clear h0 ht hz hA
    go_enter Tryd.func32, Tryd.ntmps32
    go_wp2_with (go_at_call 62; refine HE.out.mono ?_; rintro e w1 ⟨rfl, hB1⟩)
    go_ret3
    exact ⟨_, rfl, World.ownsRow_nil _ _ _ _, hB1⟩
end Go.Proofs.YtchkngabppmbkaaDoor

/-
  WALKS: SameInts at two rows of the same numbers.
-/
namespace Go.Proofs.YtchkngabppmbkaaDoor
open Go.RowKit

theorem row_some {w : World} {B : Nat} {e : TypeId} {ao : Option Addr} {n cp : Nat} {xs : List Value} (h : w.ownsRow B e 1 (.slice ao n cp) n xs) (hn : 0 < n) : ∃ g, ao = some ⟨g, 0, none⟩ ∧ g < w.heap.size := by
  rcases h.2 with ⟨_, h2⟩ | ⟨g, cap, cur, h1, _, h3, _⟩
  · omega
  · cases h1; exact ⟨g, rfl, (Array.getElem?_eq_some_iff.1 h3).1⟩

set_option maxRecDepth 100000 in
set_option maxHeartbeats 2000000 in
theorem sameInts_same (l : List Int) (v u : Value) (B1 B2 : Nat) (w : World) (hl : l.length ≤ 1000000) (hv : w.ownsRow B1 3 1 v l.length (intCells l)) (hu : w.ownsRow B2 3 1 u l.length (intCells l)) :
    Calls Tryd.prog 33 #[v, u] w fun e w' => e = .returned (.bool true) ∧ Below w.heap.size w w' := by
  obtain ⟨ao, cp, rfl⟩ := own_formO hv
  obtain ⟨bo, dp, rfl⟩ := own_formO hu
  have HV := Lib.hid hv; have HU := Lib.hid hu
  clear hv hu
  go_enter Tryd.func33, Tryd.ntmps33
  go_wp2
  go_loopw [5] (fun i wr => ∃ k : Nat, k ≤ l.length ∧ i = .int .i64 k ∧ Below w.heap.size w wr) (fun i _ => l.length - (intOf i).toNat)
  case atStart => exact ⟨0, Nat.zero_le _, rfl, Below.refl _ _⟩
  case round =>
    obtain ⟨k, hk, rfl, hB⟩ := hrel
    by_cases hlt : k < l.length
    · obtain ⟨g, rfl, hg⟩ := row_some HV.out (by omega)
      obtain ⟨h, rfl, hh⟩ := row_some HU.out (by omega)
      have hz : ∃ z, (intCells l)[k]? = some (.int .i64 z) := intCells_in hlt
      obtain ⟨z, hz⟩ := hz
      have c1 : wr.cell? ⟨g, k, none⟩ = some (.int .i64 z) := (hB.cell (p := ⟨g, k, none⟩) hg).trans ((HV.out.cellAt k (by omega)).trans hz)
      have c2 : wr.cell? ⟨h, k, none⟩ = some (.int .i64 z) := (hB.cell (p := ⟨h, k, none⟩) hh).trans ((HU.out.cellAt k (by omega)).trans hz)
      have i0 : (0 : Int) ≤ (k : Int) := by omega
      have i1 : (k : Int) < (l.length : Int) := by omega
      clear hz
      go_wp2
      go_quiet (fail)
      go_wp2
      go_roundw
      case rel => exact ⟨k + 1, by omega, by go_num, below_drewN hB nq⟩
      case measure => simp [intOf]; omega
    · obtain rfl : k = l.length := by omega
      go_wp2
      go_ret
      exact ⟨rfl, hB⟩
end Go.Proofs.YtchkngabppmbkaaDoor
