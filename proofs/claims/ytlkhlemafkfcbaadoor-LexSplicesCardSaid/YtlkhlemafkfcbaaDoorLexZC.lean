/-
  WALKS: the reference's Undo.
-/
import Derived.Test.YtlkhlemafkfcbaaDoorLexZB
import Derived.Test.YtlkhlemafkfcbaaDoorLexY
import Derived.Deep.RegionHeld3
import Derived.Deep.AppendLies
import Derived.OwnWalk
namespace Go.Proofs.YtlkhlemafkfcbaaDoor
open Go.RowKit

set_option maxRecDepth 100000 in
set_option maxHeartbeats 4000000 in
theorem refUndo_any (s : ByteArray) (l : List Lx.Spl) (A : Option Addr) (c : Nat) (w : World) (hz : s.size ≤ 281474976710656) (hl : l.length ≤ 1152921504606846976) (ht : ∀ x ∈ l, x.text.size ≤ 1099511627776) (hS : Spls w w.heap.size A l) :
    Calls Tryd.prog 40 #[.string s, .slice A l.length c] w (SplsRet (Lx.undoOf s l) w) := by
  obtain ⟨i0, hi, hz0, hz1, hz2⟩ := info_parts infoSpl
  have HC := Lib.hid (refCheck_any s l A c w hz hl ht hS)
  obtain ⟨R, hR⟩ : ∃ R, Lx.undoOf s l = R := ⟨_, rfl⟩
  rw [hR]
  by_cases h0 : (Lx.changesOf s l).2 ≠ 0
  · rw [Lx.undoOf, if_pos h0] at hR
    have h0' : (((Lx.changesOf s l).2 : Int) != 0) = true := by rw [bne_iff_ne]; omega
    generalize (Lx.changesOf s l).2 = er at *
    have HV := Lib.hid hR.symm
    clear h0 ht hS hR
    go_enter Tryd.func40, Tryd.ntmps40
    go_wp2_with (go_at_call 67; refine HC.out.mono ?_; rintro e w1 ⟨rfl, hB1⟩)
    go_ret2
    exact splsRet_none HV.out rfl hB1
  · have h0 : (Lx.changesOf s l).2 = 0 := by omega
    obtain ⟨hL, hte, h40, hr, _, _⟩ := Lx.changesOf_ok h0
    have hsm := Lx.textErr_le hte
    rw [Lx.undoOf, if_neg (by omega)] at hR
    have HV := Lib.hid hR.symm
    have HA := Lib.hid (Lx.rightFrom_all hr)
    have hbd := Lx.chgs_bounds s hsm (g := 0) hr (by omega) ht
    have HBD := Lib.hid hbd
    rw [h0] at HC
    have HS := Lib.hid hS; have HT := Lib.hid ht
    clear h0 hL hte hR hr ht hS hbd
    go_enter Tryd.func40, Tryd.ntmps40
    go_wp2_with (go_at_call 67; refine HC.out.mono ?_; rintro e w1 ⟨rfl, hB1⟩)
    have hS1 : Spls w1 w1.heap.size A l := fun hn => by obtain ⟨b, off, h1, h2, h3⟩ := HS.out.below hB1 hn; exact ⟨b, off, h1, Nat.lt_of_lt_of_le h2 hB1.size, h3⟩
    have HS1 := Lib.hid hS1
    clear HS hS1
    go_loopw [7, 8, 9] (fun v m i wr => ∃ (k : Nat) (g : Int) (pre : List Lx.Chg), k ≤ l.length ∧ i = .int .i64 k ∧ m = .int .i64 g ∧ -(2500 * k) ≤ g ∧ g ≤ 1099511627776 * k ∧ Hid (pre.length = k) ∧ Hid (Lx.chgs s 0 l = pre ++ Lx.chgs s g (l.drop k)) ∧ Hid (wr.ownsRow w1.heap.size 56 3 v k (splsCells (pre.map Lx.Chg.back))) ∧ Below w1.heap.size w1 wr) (fun _ _ i _ => l.length - (intOf i).toNat)
    case atStart => exact ⟨0, 0, [], Nat.zero_le _, rfl, rfl, by simp, by simp, rfl, rfl, World.ownsRow_nil _ _ _ _, Below.refl _ _⟩
    case round =>
      obtain ⟨k, g, pre, hk, rfl, rfl, hg0, hg1, hpl, hch, hown, hBr⟩ := hrel
      have hszr := hBr.size
      by_cases hlt : k < l.length
      · obtain ⟨b, off, rfl, hbB, hc⟩ := HS1.out.below hBr (by intro e; subst e; simp at hlt)
        obtain ⟨x, hx⟩ : ∃ x, l[k]? = some x := ⟨_, List.getElem?_eq_getElem hlt⟩
        have hxm : x ∈ l := List.mem_of_getElem? hx
        obtain ⟨e1, e2, e3⟩ := hc k x hx
        obtain ⟨a1, a2, a3⟩ := HA.out x hxm
        have htx := HT.out x hxm
        have hgb := Lx.growBy_bounds s x htx hsm
        have hos := Lx.outOf_size (s := s) (x := x) a1 a2 a3
        have hgw : Lx.growBy s x = (x.text.size : Int) - (x.hi - x.lo) := by rw [Lx.growBy, hos]
        have hd := Lx.drop_of_get hx
        have hch' := hch.out
        rw [hd, Lx.chgs] at hch'
        have hout : Lx.outOf s x = s.extract x.lo.toNat x.hi.toNat := rfl
        have HG := Lib.hid hgw
        have HCH := Lib.hid hch'
        have HO := Lib.hid hown.out
        have HOUT := Lib.hid hout
        have hk40 : k ≤ 40 := by omega
        clear hd hx hxm hc hos hch hch' hgw hown hout
        go_wp2
        have hne : u7.ownBlock ≠ some b := fun e => by have := own_lt HO.out e.symm; omega
        have hw0 : IntKind.i64.wrap (x.lo + g + (x.text.size : Int)) = x.lo + g + (x.text.size : Int) := IntWalk.i64_in _ (by omega)
        go_region_held3 (fun w' => w'.cell? ⟨b, off + k * 3, none⟩ = some (.int .i64 x.lo) ∧ w'.cell? ⟨b, off + k * 3 + 1, none⟩ = some (.int .i64 x.hi) ∧ w'.cell? ⟨b, off + k * 3 + 2, none⟩ = some (.string x.text))
          (first
            | go_keep
            | (go_split_ands
               refine ⟨?_, ?_, ?_⟩
               · (rw [hgrow.cell_far _ (by simp; omega) (Ne.symm hne)]; assumption)
               · (rw [hgrow.cell_far _ (by simp; omega) (Ne.symm hne)]; assumption)
               · (rw [hgrow.cell_far _ (by simp; omega) (Ne.symm hne)]; assumption)))
          ((go_loud (refine step_append_lies _ (by rfl) _ _ _ (by rfl) w1.heap.size 56 i0 _ 3 32 Tryd.underlying45 hi hz0 hz1 hz2 rfl (by omega) u7 k (splsCells (pre.map Lx.Chg.back)) (by rfl) ((HO.out.alloc _).drew) ⟨wr.heap.size, 0, none⟩ 1 1 [.int .i64 (x.lo + g), .int .i64 (x.lo + g + (x.text.size : Int)), .string (s.extract x.lo.toNat x.hi.toNat)] (by rfl) (by rfl) (World.news_of_block (cs := #[.int .i64 (x.lo + g), .int .i64 (x.lo + g + (x.text.size : Int)), .string (s.extract x.lo.toNat x.hi.toNat)]) (t := 56) (fr := (0, 0)) (heap_alloc_new wr _)) (by simp [Value.oneCell']) (by omega) (by unfold maxLen; omega) (by omega) (by simp; omega) (wr.heap.size + 1) (by simp) ?_); intro gg cap w2 hown1 hgrow hat hlt2))
        have hBg : Below w1.heap.size wr w2 := (((Below.refl _ _).alloc hszr _).drew).trans ⟨hgrow.os, hgrow.tape, hgrow.output, hgrow.size, fun i hi' => hgrow.block i (by simp; omega) (fun e => by have := own_lt HO.out e; omega)⟩
        have hB2 := hBr.trans hBg
        have hw1 : IntKind.i64.wrap (x.hi - x.lo) = x.hi - x.lo := IntWalk.i64_in _ (by omega)
        have hw2 : IntKind.i64.wrap ((x.text.size : Int) - (x.hi - x.lo)) = (x.text.size : Int) - (x.hi - x.lo) := IntWalk.i64_in _ (by omega)
        have hw3 : IntKind.i64.wrap (g + ((x.text.size : Int) - (x.hi - x.lo))) = g + ((x.text.size : Int) - (x.hi - x.lo)) := IntWalk.i64_in _ (by omega)
        have hO2 := Lib.hid hown1
        clear hown1 hat
        go_wp2
        go_quiet (fail)
        go_wp2
        go_roundw
        case rel => exact ⟨k + 1, g + Lx.growBy s x, pre ++ [⟨x, x.lo + g, Lx.outOf s x⟩], by omega, by go_num, by rw [HG.out], by omega, by omega, by rw [Hid, List.length_append, hpl.out]; rfl, by rw [Hid, HCH.out]; simp, by have := ownsRow_below hO2.out (below_drewN (Below.refl w2.heap.size w2) nq); rw [Hid, List.map_append, HOUT.out]; simpa [splsCells, splCells, Lx.Chg.back] using this, below_drewN hB2 _⟩
        case measure => simp [intOf]; omega
      · obtain ⟨vo, vc, rfl⟩ := own_slice_form hown.out
        obtain rfl : k = l.length := by omega
        have hch' := hch.out
        rw [List.drop_length, Lx.chgs, List.append_nil] at hch'
        have HO := Lib.hid hown.out
        have HCH := Lib.hid hch'
        clear hown hch hch'
        go_wp2
        go_ret2
        unfold SplsRet
        rw [HV.out]
        have hlen : l.length = ((Lx.chgs s 0 l).map Lx.Chg.back).length := by rw [List.length_map, Lx.chgs_length]
        have hO2 := HO.out
        rw [← HCH.out] at hO2
        exact ⟨_, _, by rw [← hlen]; rfl, spls_of_own hO2 hlen, hB1.trans (hBr.mono hB1.size), by rw [← hlen]; exact nilOk_of_own hO2⟩
end Go.Proofs.YtlkhlemafkfcbaaDoor
