/-
  WALKS: what two lists of tokens have in common.
-/
import Derived.Test.YtchkngabppmbkaaDoorLexT
import Derived.Test.YtchkngabppmbkaaDoorLexN
import Derived.Test.YtchkngabppmbkaaDoorSpecQ
import Derived.StillTailTactics
import Derived.Test.YtchkngabppmbkaaDoorLexP
import Derived.Test.YtchkngabppmbkaaDoorSpecR
namespace Go.Proofs.YtchkngabppmbkaaDoor
open Go.RowKit

theorem tkAt_get {l : List Lx.Tk} {i : Nat} (h : i < l.length) : l[i]? = some (Lx.tkAt l i) := by unfold Lx.tkAt; rw [List.getElem?_eq_getElem h]; rfl
theorem tkEq_eq (x y : Lx.Tk) : tkEq x.kind y.kind x.text y.text x.pos y.pos = decide (x = y) := by
  unfold tkEq
  refine Bool.eq_iff_iff.2 ?_
  rw [decide_eq_true_iff, decide_eq_true_iff]
  cases x; cases y; simp

theorem block_of_cell' {W : World} {a : Addr} {v : Value} (h : W.cell? a = some v) : a.block < W.heap.size := by
  unfold World.cell? at h
  rcases Nat.lt_or_ge a.block W.heap.size with h1 | h1
  · exact h1
  · rw [Array.getElem?_eq_none h1] at h; cases h

set_option maxRecDepth 100000 in
set_option maxHeartbeats 1000000 in
theorem keptSame_any (k k' : Int) (s t : ByteArray) (p p' : Int) (w : World) : Calls Tryd.prog 73 #[.agg #[.int .u8 k, .string s, .int .i64 p], .agg #[.int .u8 k', .string t, .int .i64 p']] w fun e w' => e = .returned (.bool (tkEq k k' s t p p')) ∧ Below w.heap.size w w' := by
  have qn := run_eql_tk
  have qg : ∀ (x y : Operand) (xs ys : Array Value) (w : World), (eqGuard .eql 63 x y (.agg xs) (.agg ys)).run Tryd.prog w = .ok () w := fun x y xs ys w => run_eqGuard_agg w _ _ x y xs ys (by kernel_rfl)
  go_enter Tryd.func73, Tryd.ntmps73
  go_wp2
  go_ret
  refine ⟨rfl, ?_⟩
  repeat (first | assumption | exact Below.refl _ _ | refine Below.drew ?_ | refine Below.alloc ?_ (by first | omega | (simp; omega) | simp) _)

set_option maxRecDepth 100000 in
set_option maxHeartbeats 1000000 in
theorem keptMoved_any (k k' : Int) (s t : ByteArray) (p p' g : Int) (bg : Nat) (w : World) (hg : w.cell? ⟨bg, 0, none⟩ = some (.int .i64 g)) (h0 : -1099511627776 ≤ p) (h1 : p ≤ 1099511627776) (g0 : -1099511627776 ≤ g) (g1 : g ≤ 1099511627776) :
    Calls Tryd.prog 74 #[.agg #[.int .u8 k, .string s, .int .i64 p], .agg #[.int .u8 k', .string t, .int .i64 p'], .pointer (some ⟨bg, 0, none⟩)] w fun e w' => e = .returned (.bool (tkEq k k' s t (p + g) p')) ∧ Below w.heap.size w w' := by
  have qn := run_eql_tk
  have qg : ∀ (x y : Operand) (xs ys : Array Value) (w : World), (eqGuard .eql 63 x y (.agg xs) (.agg ys)).run Tryd.prog w = .ok () w := fun x y xs ys w => run_eqGuard_agg w _ _ x y xs ys (by kernel_rfl)
  have hlt := block_of_cell' hg
  go_enter Tryd.func74, Tryd.ntmps74
  go_wp2
  go_ret
  refine ⟨rfl, ?_⟩
  repeat (first | assumption | exact Below.refl _ _ | refine Below.drew ?_ | refine Below.setCell ?_ (by first | omega | (simp; omega) | simp) _ | refine Below.alloc ?_ (by first | omega | (simp; omega) | simp) _)
end Go.Proofs.YtchkngabppmbkaaDoor

/-
  WALKS: what two lists of tokens have in common.
-/
namespace Go.Proofs.YtchkngabppmbkaaDoor
open Go.RowKit

theorem tks_ne {l : List Lx.Tk} {i : Nat} (h : i < l.length) : l ≠ [] := by intro e; subst e; simp at h

set_option maxRecDepth 100000 in
set_option maxHeartbeats 4000000 in
theorem common_toks (a b : List Lx.Tk) (g : Int) (A C : Option Addr) (ca cc bg : Nat) (w : World) (hs : a.length ≤ 281474976710656) (ht : b.length ≤ 281474976710656) (hA : Tks w w.heap.size A a) (hC : Tks w w.heap.size C b)
    (hz : ∀ x ∈ a, -1099511627776 ≤ x.pos ∧ x.pos ≤ 1099511627776) (g0 : -1099511627776 ≤ g) (g1 : g ≤ 1099511627776) (hg : w.cell? ⟨bg, 0, none⟩ = some (.int .i64 g)) :
    Calls Tryd.prog 75 #[.slice A a.length ca, .slice C b.length cc, .func (.func 73) #[] #[], .func (.func 74) #[] #[.pointer (some ⟨bg, 0, none⟩)]] w fun e w' =>
      e = .returned (.tuple #[.int .i64 (Lx.headTks a b : Int), .int .i64 (Lx.tailTks g a b : Int)]) ∧ Below w.heap.size w w' := by
  obtain ⟨M, hM⟩ : ∃ M, Lx.tkMost a b = M := ⟨_, rfl⟩
  have hMs : M ≤ a.length := hM ▸ Nat.min_le_left _ _
  have hMt : M ≤ b.length := hM ▸ Nat.min_le_right _ _
  have HMin := Lib.hid (show min a.length b.length = M from hM)
  have HM := Lib.hid hM; clear hM
  obtain ⟨H, hH⟩ : ∃ H, Lx.headTks a b = H := ⟨_, rfl⟩
  have hHm : H ≤ M := hH ▸ HM.out ▸ Lx.headTks_le a b
  rw [hH]
  have HH := Lib.hid hH; clear hH
  obtain ⟨T, hT⟩ : ∃ T, Lx.tailTks g a b = T := ⟨_, rfl⟩
  have hTm : H + T ≤ M := by have := Lx.tailTks_le g a b; rw [HH.out, HM.out, hT] at this; exact this
  rw [hT]
  have HT := Lib.hid hT; clear hT
  have HA := Lib.hid hA; have HC := Lib.hid hC; have HZ := Lib.hid hz; clear hA hC hz
  have hbg := block_of_cell' hg
  have HG := Lib.hid hg; clear hg
  go_enter Tryd.func75, Tryd.ntmps75
  go_wp2
  rw [show min (a.length : Int) (b.length : Int) = (M : Int) by have := HMin.out; omega]
  go_loopw [8] (fun i wr => ∃ k : Nat, k ≤ M ∧ i = .int .i64 k ∧ Hid (Lx.cnt (Lx.headT a b) (M - k) k = H) ∧ Below w.heap.size w wr) (fun i _ => M - (intOf i).toNat)
  case atStart => exact ⟨0, Nat.zero_le _, rfl, by have := HH.out; rw [Lx.headTks, HM.out] at this; exact this, Below.refl _ _⟩
  case round =>
    obtain ⟨k, hk, rfl, hn, hB⟩ := hrel
    have hsz := hB.size
    by_cases hlt : k < M
    · have hd : decide ((k : Int) < (M : Int)) = true := decide_eq_true (by omega)
      have hka : k < a.length := by omega
      have hkb : k < b.length := by omega
      obtain ⟨ba, oa, rfl, hba, hca⟩ := HA.out.below hB (tks_ne hka)
      obtain ⟨bb, ob, rfl, hbb, hcb⟩ := HC.out.below hB (tks_ne hkb)
      obtain ⟨x, hx⟩ : ∃ x, Lx.tkAt a k = x := ⟨_, rfl⟩
      obtain ⟨y, hy⟩ : ∃ y, Lx.tkAt b k = y := ⟨_, rfl⟩
      obtain ⟨x1, x2, x3⟩ := hca k x (by rw [tkAt_get hka, hx])
      obtain ⟨y1, y2, y3⟩ := hcb k y (by rw [tkAt_get hkb, hy])
      have hp : Lx.headT a b k = tkEq x.kind y.kind x.text y.text x.pos y.pos := by rw [tkEq_eq, Lx.headT, hx, hy]
      have HST := Lib.hid (fun hp => (Lx.cnt_step (p := Lx.headT a b) (m := M) hlt hp).symm.trans hn.out)
      have HSP := Lib.hid (fun hp => (Lx.cnt_stop (p := Lx.headT a b) (m := M) (k := k) hp).symm.trans hn.out)
      rw [hp] at HST HSP
      clear hp hca hcb hx hy
      cases hq : tkEq x.kind y.kind x.text y.text x.pos y.pos
      · have hkH : Hid (k = H) := HSP.out hq
        clear HST HSP
        have HCL := Lib.hid (keptSame_any x.kind y.kind x.text y.text x.pos y.pos wr.drew)
        rw [hq] at HCL
        go_wp2
        go_still_tail 13, (by kernel_rfl)
        change wpList _ _ _ _ _ wr.drew
        go_wp2_with (go_at_call 73; refine HCL.out.mono ?_; rintro e w1 ⟨rfl, hB1⟩; have hB := hB.drew.trans (hB1.mono (by simpa using hsz)))
        obtain rfl : k = H := hkH.out
        clear hkH hn hd x1 x2 x3 y1 y2 y3 hq HCL hka hkb
        have hT0 : Hid (Lx.cnt (Lx.tailT g a b) (M - k - 0) 0 = T) := by rw [Hid, ← HT.out, Lx.tailTks, HH.out, HM.out]; rfl
        have hs1 := hB.size
        go_loopw [9] (fun i wr => ∃ j : Nat, k + j ≤ M ∧ i = .int .i64 j ∧ Hid (Lx.cnt (Lx.tailT g a b) (M - k - j) j = T) ∧ Below w.heap.size w wr) (fun i _ => M - (intOf i).toNat)
        case atStart => exact ⟨0, by omega, rfl, hT0, hB⟩
        case round =>
          obtain ⟨j, hj, rfl, hn2, hB2⟩ := hrel
          have hsz2 := hB2.size
          have hw0 : IntKind.i64.wrap ((k : Int) + j) = (k : Int) + j := IntWalk.i64_in _ (by omega)
          have hw1 : IntKind.i64.wrap ((a.length : Int) - 1) = (a.length : Int) - 1 := IntWalk.i64_in _ (by omega)
          have hw2 : IntKind.i64.wrap ((b.length : Int) - 1) = (b.length : Int) - 1 := IntWalk.i64_in _ (by omega)
          by_cases hlt2 : j < M - k
          · have hka : a.length - 1 - j < a.length := by omega
            have hkb : b.length - 1 - j < b.length := by omega
            obtain ⟨ba, oa, hAe, hba, hca⟩ := HA.out.below hB2 (tks_ne hka)
            obtain ⟨bb, ob, hCe, hbb, hcb⟩ := HC.out.below hB2 (tks_ne hkb)
            cases hAe; cases hCe
            obtain ⟨x, hx⟩ : ∃ x, Lx.tkAt a (a.length - 1 - j) = x := ⟨_, rfl⟩
            obtain ⟨y, hy⟩ : ∃ y, Lx.tkAt b (b.length - 1 - j) = y := ⟨_, rfl⟩
            have hxg := tkAt_get hka
            rw [hx] at hxg
            obtain ⟨x1, x2, x3⟩ := hca _ x hxg
            obtain ⟨y1, y2, y3⟩ := hcb _ y (by rw [tkAt_get hkb, hy])
            obtain ⟨z0, z1⟩ := HZ.out x (List.mem_of_getElem? hxg)
            have hp : Lx.tailT g a b j = tkEq x.kind y.kind x.text y.text (x.pos + g) y.pos := by
              have h1 := tkEq_eq (x.moved g) y
              have h2 : Lx.tailT g a b j = decide (x.moved g = y) := by rw [Lx.tailT, hx, hy]
              rw [h2, ← h1]; rfl
            have HST := Lib.hid (fun hp => (Lx.cnt_step (p := Lx.tailT g a b) (m := M - k) hlt2 hp).symm.trans hn2.out)
            have HSP := Lib.hid (fun hp => (Lx.cnt_stop (p := Lx.tailT g a b) (m := M - k) (k := j) hp).symm.trans hn2.out)
            rw [hp] at HST HSP
            have hd : decide ((k : Int) + (j : Int) < (M : Int)) = true := decide_eq_true (by omega)
            have za : IntKind.i64.wrap ((a.length : Int) - 1 - j) = ((a.length - 1 - j : Nat) : Int) := by rw [IntWalk.i64_in _ (by omega)]; omega
            have zb : IntKind.i64.wrap ((b.length : Int) - 1 - j) = ((b.length - 1 - j : Nat) : Int) := by rw [IntWalk.i64_in _ (by omega)]; omega
            have HCL := Lib.hid (keptMoved_any x.kind y.kind x.text y.text x.pos y.pos g bg wr.drew ((hB2.drew.cell (p := ⟨bg, 0, none⟩) hbg).trans HG.out) z0 z1 g0 g1)
            clear hp hca hcb hx hy hxg
            generalize a.length - 1 - j = ja at *
            generalize b.length - 1 - j = jb at *
            cases hq : tkEq x.kind y.kind x.text y.text (x.pos + g) y.pos
            · obtain rfl : j = T := HSP.out hq
              rw [hq] at HCL
              clear HST HSP
              go_wp2
              go_still_tail 23, (by kernel_rfl)
              change wpList _ _ _ _ _ wr.drew
              go_wp2_with (go_at_call 74; refine HCL.out.mono ?_; rintro e w2 ⟨rfl, hB3⟩; have hB4 := hB2.drew.trans (hB3.mono (by simpa using hsz2)))
              go_ret2
              exact ⟨rfl, hB4⟩
            · rw [hq] at HCL
              have HST2 := Lib.hid (HST.out hq)
              clear HST HSP
              go_wp2
              go_still_tail 23, (by kernel_rfl)
              change wpList _ _ _ _ _ wr.drew
              go_wp2_with (go_at_call 74; refine HCL.out.mono ?_; rintro e w2 ⟨rfl, hB3⟩; have hB4 := hB2.drew.trans (hB3.mono (by simpa using hsz2)))
              go_roundw
              case rel => exact ⟨j + 1, by omega, by go_num, HST2.out, hB4⟩
              case measure => simp [intOf]; omega
          · have hd : decide ((k : Int) + (j : Int) < (M : Int)) = false := decide_eq_false (by omega)
            obtain rfl : j = T := (Lx.cnt_end (by omega)).symm.trans hn2.out
            go_wp2
            go_quiet (fail)
            go_wp2
            go_ret2
            exact ⟨rfl, below_drewN hB2 _⟩
      · have HST2 := Lib.hid (HST.out hq)
        clear HST HSP
        have HCL := Lib.hid (keptSame_any x.kind y.kind x.text y.text x.pos y.pos wr.drew)
        rw [hq] at HCL
        go_wp2
        go_still_tail 13, (by kernel_rfl)
        change wpList _ _ _ _ _ wr.drew
        go_wp2_with (go_at_call 73; refine HCL.out.mono ?_; rintro e w1 ⟨rfl, hB1⟩; have hB := hB.drew.trans (hB1.mono (by simpa using hsz)))
        go_roundw
        case rel => exact ⟨k + 1, by omega, by go_num, HST2.out, hB⟩
        case measure => simp [intOf]; omega
    · have hkH : Hid (k = H) := (Lx.cnt_end (by omega)).symm.trans hn.out
      have hd : decide ((k : Int) < (M : Int)) = false := decide_eq_false (by omega)
      go_wp2
      go_quiet (fail)
      have hB := below_drewN hB nq
      go_wp2
      obtain rfl : k = H := hkH.out
      clear hkH hn hd
      generalize wr.drewN nq = w1 at *
      have hT0 : Hid (Lx.cnt (Lx.tailT g a b) (M - k - 0) 0 = T) := by rw [Hid, ← HT.out, Lx.tailTks, HH.out, HM.out]; rfl
      have hs1 := hB.size
      go_loopw [9] (fun i wr => ∃ j : Nat, k + j ≤ M ∧ i = .int .i64 j ∧ Hid (Lx.cnt (Lx.tailT g a b) (M - k - j) j = T) ∧ Below w.heap.size w wr) (fun i _ => M - (intOf i).toNat)
      case atStart => exact ⟨0, by omega, rfl, hT0, hB⟩
      case round =>
        obtain ⟨j, hj, rfl, hn2, hB2⟩ := hrel
        have hsz2 := hB2.size
        have hw0 : IntKind.i64.wrap ((k : Int) + j) = (k : Int) + j := IntWalk.i64_in _ (by omega)
        have hw1 : IntKind.i64.wrap ((a.length : Int) - 1) = (a.length : Int) - 1 := IntWalk.i64_in _ (by omega)
        have hw2 : IntKind.i64.wrap ((b.length : Int) - 1) = (b.length : Int) - 1 := IntWalk.i64_in _ (by omega)
        by_cases hlt2 : j < M - k
        · have hka : a.length - 1 - j < a.length := by omega
          have hkb : b.length - 1 - j < b.length := by omega
          obtain ⟨ba, oa, hAe, hba, hca⟩ := HA.out.below hB2 (tks_ne hka)
          obtain ⟨bb, ob, hCe, hbb, hcb⟩ := HC.out.below hB2 (tks_ne hkb)
          cases hAe; cases hCe
          obtain ⟨x, hx⟩ : ∃ x, Lx.tkAt a (a.length - 1 - j) = x := ⟨_, rfl⟩
          obtain ⟨y, hy⟩ : ∃ y, Lx.tkAt b (b.length - 1 - j) = y := ⟨_, rfl⟩
          have hxg := tkAt_get hka
          rw [hx] at hxg
          obtain ⟨x1, x2, x3⟩ := hca _ x hxg
          obtain ⟨y1, y2, y3⟩ := hcb _ y (by rw [tkAt_get hkb, hy])
          obtain ⟨z0, z1⟩ := HZ.out x (List.mem_of_getElem? hxg)
          have hp : Lx.tailT g a b j = tkEq x.kind y.kind x.text y.text (x.pos + g) y.pos := by
            have h1 := tkEq_eq (x.moved g) y
            have h2 : Lx.tailT g a b j = decide (x.moved g = y) := by rw [Lx.tailT, hx, hy]
            rw [h2, ← h1]; rfl
          have HST := Lib.hid (fun hp => (Lx.cnt_step (p := Lx.tailT g a b) (m := M - k) hlt2 hp).symm.trans hn2.out)
          have HSP := Lib.hid (fun hp => (Lx.cnt_stop (p := Lx.tailT g a b) (m := M - k) (k := j) hp).symm.trans hn2.out)
          rw [hp] at HST HSP
          have hd : decide ((k : Int) + (j : Int) < (M : Int)) = true := decide_eq_true (by omega)
          have za : IntKind.i64.wrap ((a.length : Int) - 1 - j) = ((a.length - 1 - j : Nat) : Int) := by rw [IntWalk.i64_in _ (by omega)]; omega
          have zb : IntKind.i64.wrap ((b.length : Int) - 1 - j) = ((b.length - 1 - j : Nat) : Int) := by rw [IntWalk.i64_in _ (by omega)]; omega
          have HCL := Lib.hid (keptMoved_any x.kind y.kind x.text y.text x.pos y.pos g bg wr.drew ((hB2.drew.cell (p := ⟨bg, 0, none⟩) hbg).trans HG.out) z0 z1 g0 g1)
          clear hp hca hcb hx hy hxg
          generalize a.length - 1 - j = ja at *
          generalize b.length - 1 - j = jb at *
          cases hq : tkEq x.kind y.kind x.text y.text (x.pos + g) y.pos
          · obtain rfl : j = T := HSP.out hq
            rw [hq] at HCL
            clear HST HSP
            go_wp2
            go_still_tail 23, (by kernel_rfl)
            change wpList _ _ _ _ _ wr.drew
            go_wp2_with (go_at_call 74; refine HCL.out.mono ?_; rintro e w2 ⟨rfl, hB3⟩; have hB4 := hB2.drew.trans (hB3.mono (by simpa using hsz2)))
            go_ret2
            exact ⟨rfl, hB4⟩
          · rw [hq] at HCL
            have HST2 := Lib.hid (HST.out hq)
            clear HST HSP
            go_wp2
            go_still_tail 23, (by kernel_rfl)
            change wpList _ _ _ _ _ wr.drew
            go_wp2_with (go_at_call 74; refine HCL.out.mono ?_; rintro e w2 ⟨rfl, hB3⟩; have hB4 := hB2.drew.trans (hB3.mono (by simpa using hsz2)))
            go_roundw
            case rel => exact ⟨j + 1, by omega, by go_num, HST2.out, hB4⟩
            case measure => simp [intOf]; omega
        · have hd : decide ((k : Int) + (j : Int) < (M : Int)) = false := decide_eq_false (by omega)
          obtain rfl : j = T := (Lx.cnt_end (by omega)).symm.trans hn2.out
          go_wp2
          go_quiet (fail)
          go_wp2
          go_ret2
          exact ⟨rfl, below_drewN hB2 _⟩
end Go.Proofs.YtchkngabppmbkaaDoor

/-
  WALKS: lex.Kept.
-/
namespace Go.Proofs.YtchkngabppmbkaaDoor
open Go.RowKit

def splV (x : Lx.Spl) : Value := .agg #[.int .i64 x.lo, .int .i64 x.hi, .string x.text]
theorem spls_one (W : World) (x : Lx.Spl) : Spls (W.alloc (.cells #[.int .i64 x.lo, .int .i64 x.hi, .string x.text] 56)) (W.alloc (.cells #[.int .i64 x.lo, .int .i64 x.hi, .string x.text] 56)).heap.size (some ⟨W.heap.size, 0, none⟩) [x] := fun _ =>
  ⟨_, _, rfl, by simp, fun i y hy => by
    rcases i with _ | i
    · simp at hy; subst hy
      exact ⟨cells_new_at W _ _ 0 _ rfl, cells_new_at W _ _ 1 _ rfl, cells_new_at W _ _ 2 _ rfl⟩
    · simp at hy⟩
theorem spls_two (w : World) (x : Lx.Spl) : Spls ((w.alloc (.cells #[.int .i64 x.lo, .int .i64 x.hi, .string x.text] 56)).alloc (.cells #[.int .i64 x.lo, .int .i64 x.hi, .string x.text] 56)) ((w.alloc (.cells #[.int .i64 x.lo, .int .i64 x.hi, .string x.text] 56)).alloc (.cells #[.int .i64 x.lo, .int .i64 x.hi, .string x.text] 56)).heap.size (some ⟨w.heap.size + 1, 0, none⟩) [x] := by
  have h := spls_one (w.alloc (.cells #[.int .i64 x.lo, .int .i64 x.hi, .string x.text] 56)) x
  simpa using h
theorem tksLater {w w' : World} {A : Option Addr} {l : List Lx.Tk} (h : Tks w w.heap.size A l) (hB : Below w.heap.size w w') : Tks w' w'.heap.size A l := (h.below hB).mono hB.size
theorem toksOf_pos {s : ByteArray} : ∀ x ∈ Lx.toksOf s, 0 ≤ x.pos ∧ x.pos ≤ 2500 := fun x hx => by
  by_cases h : (Lx.tokensOf s).2.2 = 0
  · have h1 := (Lx.tokensOf_ok h).1
    rw [Lx.toksOf_ok h] at hx
    obtain ⟨z, hz, rfl⟩ := List.mem_map.1 hx
    have := Lx.piecesAt_ge z (List.mem_filter.1 hz).1
    show 0 ≤ (z.pos : Int) ∧ (z.pos : Int) ≤ 2500
    omega
  · unfold Lx.toksOf at hx
    rw [Lx.tokensOf_bad h] at hx; cases hx
theorem tokensOf_len' (s : ByteArray) : (Lx.tokensOf s).1.length ≤ 900 := by
  by_cases h : (Lx.tokensOf s).2.2 = 0
  · exact (Lx.tokensOf_ok h).2.2.2.1
  · rw [Lx.tokensOf_bad h]; simp
/-- What a call leaves that returns two numbers and an error. -/
def KeptRet (R : Nat × Nat × Nat) (w : World) (e : Ending) (w' : World) : Prop := e = .returned (.tuple #[.int .i64 (R.1 : Int), .int .i64 (R.2.1 : Int), .int .i64 (R.2.2 : Int)]) ∧ Below w.heap.size w w'
theorem keptRet {R : Nat × Nat × Nat} {w w' : World} {e : Ending} {a b n : Nat} (hR : R = (a, b, n)) (he : e = .returned (.tuple #[.int .i64 (a : Int), .int .i64 (b : Int), .int .i64 (n : Int)])) (hB : Below w.heap.size w w') : KeptRet R w e w' := by
  subst hR; exact ⟨he, hB⟩

set_option maxRecDepth 100000 in
set_option maxHeartbeats 4000000 in
theorem kept_any (s : ByteArray) (x : Lx.Spl) (w : World) (hs : s.size ≤ 281474976710656) (hx : x.text.size ≤ 1099511627776) (hG : GV w) :
    Calls Tryd.prog 44 #[.string s, .agg #[.int .i64 x.lo, .int .i64 x.hi, .string x.text]] w (KeptRet (Lx.keptOf s x) w) := by
  have HA := Lib.hid (fun A c W hS => apply_any s [x] A c W hs (by simp) (fun y hy => by rw [List.mem_singleton.1 hy]; exact hx) hS)
  simp only [List.length_singleton] at HA
  have HS0 := Lib.hid (spls_two w x)
  have hB0 : Below w.heap.size w ((w.alloc (.cells #[.int .i64 x.lo, .int .i64 x.hi, .string x.text] 56)).alloc (.cells #[.int .i64 x.lo, .int .i64 x.hi, .string x.text] 56)) := ((Below.refl _ _).alloc (Nat.le_refl _) _).alloc (by simp) _
  obtain ⟨R, hR⟩ : ∃ R, Lx.keptOf s x = R := ⟨_, rfl⟩
  rw [hR]
  unfold Lx.keptOf at hR
  by_cases h0 : (Lx.applyOf s [x]).2 = 0
  · rw [if_neg (by omega)] at hR
    have HT1 := Lib.hid (fun W (hB : Below w.heap.size w W) => tokens_any s hs W (hG.below hB))
    have hTz : (Lx.applyOf s [x]).1.size ≤ 5000000000000 := by
      obtain ⟨h1, h2, h3, h4, h5⟩ := Lx.applyOne h0
      have e1 := Lx.bytes_length (Lx.applyOf s [x]).1
      rw [h5, List.length_append, List.length_append, List.length_take, List.length_drop, Lx.bytes_length, Lx.bytes_length] at e1
      omega
    have hs0 := (Lx.applyOne h0).1
    have e0 : (((Lx.applyOf s [x]).2 : Int) != 0) = false := by rw [bne_eq_false_iff_eq]; omega
    have hT2' : (Lx.applyOf s [x]).1.size ≤ 281474976710656 := by omega
    have HT2 := Lib.hid (fun W (hB : Below w.heap.size w W) => tokens_any (Lx.applyOf s [x]).1 hT2' W (hG.below hB))
    generalize Lx.applyOf s [x] = P at *
    by_cases h1 : (Lx.tokensOf s).2.2 = 0
    · rw [if_neg (by omega)] at hR
      by_cases h2 : (Lx.tokensOf P.1).2.2 = 0
      · rw [if_neg (by omega)] at hR
        have hPz := (Lx.tokensOf_ok h2).1
        have HCM := Lib.hid (fun A C ca cc bg W (hA : Tks W W.heap.size A (Lx.toksOf s)) (hC : Tks W W.heap.size C (Lx.toksOf P.1)) (hg : W.cell? ⟨bg, 0, none⟩ = some (.int .i64 ((P.1.size : Int) - s.size))) =>
          common_toks (Lx.toksOf s) (Lx.toksOf P.1) ((P.1.size : Int) - s.size) A C ca cc bg W (by rw [Lx.toksOf, List.length_map]; have := tokensOf_len' s; omega) (by rw [Lx.toksOf, List.length_map]; have := tokensOf_len' P.1; omega) hA hC (fun y hy => by have := toksOf_pos y hy; omega) (by omega) (by omega) hg)
        have hl1 : (Lx.toksOf s).length = (Lx.tokensOf s).1.length := by rw [Lx.toksOf, List.length_map]
        have hl2 : (Lx.toksOf P.1).length = (Lx.tokensOf P.1).1.length := by rw [Lx.toksOf, List.length_map]
        rw [hl1, hl2] at HCM
        have e1 : (((Lx.tokensOf s).2.2 : Int) != 0) = false := by rw [bne_eq_false_iff_eq]; omega
        have e2 : (((Lx.tokensOf P.1).2.2 : Int) != 0) = false := by rw [bne_eq_false_iff_eq]; omega
        have hw1 : IntKind.i64.wrap ((P.1.size : Int) - s.size) = (P.1.size : Int) - s.size := IntWalk.i64_in _ (by omega)
        have HV := Lib.hid hR.symm
        have HTK1 := Lib.hid (show ∀ (w : World) (base : Nat) (v : Value), w.ownsRow base 63 3 v (Lx.tokensOf s).1.length (toksCells (Lx.tokensOf s).1) → ∃ ao cap, v = .slice ao (Lx.tokensOf s).1.length cap ∧ Tks w w.heap.size ao (Lx.toksOf s) from fun _ _ _ h => own_tks h)
        have HTK2 := Lib.hid (show ∀ (w : World) (base : Nat) (v : Value), w.ownsRow base 63 3 v (Lx.tokensOf P.1).1.length (toksCells (Lx.tokensOf P.1).1) → ∃ ao cap, v = .slice ao (Lx.tokensOf P.1).1.length cap ∧ Tks w w.heap.size ao (Lx.toksOf P.1) from fun _ _ _ h => own_tks h)
        generalize Lx.toksOf s = L1 at *
        generalize Lx.toksOf P.1 = L2 at *
        generalize Lx.tokensOf s = T1 at *
        generalize Lx.tokensOf P.1 = T2 at *
        clear hR hl1 hl2 hG h0 h1 h2
        go_enter Tryd.func44, Tryd.ntmps44
        go_wp2_with (first
          | (go_at_call 35; refine (HA.out _ _ _ HS0.out).mono ?_; rintro e w1 ⟨rfl, hB1⟩; have hB1 := hB0.trans (hB1.mono hB0.size))
          | (go_at_call 19; refine (HT2.out w2 hB2').mono ?_; rintro e w3 ⟨v2, rfl, hown2, hB3⟩; obtain ⟨ao2, cap2, rfl, htk2⟩ := HTK2.out _ _ _ hown2; have hB3' := hB2'.trans (hB3.mono hB2'.size); have htk1' := tksLater htk1 hB3)
          | (go_at_call 19; refine (HT1.out w1 hB1).mono ?_; rintro e w2 ⟨v1, rfl, hown1, hB2⟩; obtain ⟨ao1, cap1, rfl, htk1⟩ := HTK1.out _ _ _ hown1; have hB2' := hB1.trans (hB2.mono hB1.size))
          | (go_at_call 75; refine (HCM.out _ _ _ _ _ _ (tksLater htk1' ((Below.refl _ w3).alloc (Nat.le_refl _) _)) (tksLater htk2 ((Below.refl _ w3).alloc (Nat.le_refl _) _)) (cells_new_at w3 _ _ 0 _ rfl)).mono ?_; rintro e w5 ⟨rfl, hB5⟩))
        have hsz3 := hB3'.size
        go_ret3
        exact keptRet HV.out rfl ((hB3'.alloc hsz3 _).trans (hB5.mono (by simp; omega)))
      · rw [if_pos h2] at hR
        have HV := Lib.hid hR.symm
        have e1 : (((Lx.tokensOf s).2.2 : Int) != 0) = false := by rw [bne_eq_false_iff_eq]; omega
        have e2 : (((Lx.tokensOf P.1).2.2 : Int) != 0) = true := by rw [bne_iff_ne]; omega
        generalize Lx.tokensOf s = T1 at *
        generalize Lx.tokensOf P.1 = T2 at *
        clear hR hG h0 h1 h2
        go_enter Tryd.func44, Tryd.ntmps44
        go_wp2_with (first
          | (go_at_call 35; refine (HA.out _ _ _ HS0.out).mono ?_; rintro e w1 ⟨rfl, hB1⟩; have hB1 := hB0.trans (hB1.mono hB0.size))
          | (go_at_call 19; refine (HT2.out w2 hB2').mono ?_; rintro e w3 ⟨v2, rfl, hown2, hB3⟩; have hB3' := hB2'.trans (hB3.mono hB2'.size))
          | (go_at_call 19; refine (HT1.out w1 hB1).mono ?_; rintro e w2 ⟨v1, rfl, hown1, hB2⟩; have hB2' := hB1.trans (hB2.mono hB1.size)))
        go_ret3
        exact keptRet HV.out rfl hB3'
    · rw [if_pos h1] at hR
      have HV := Lib.hid hR.symm
      have e1 : (((Lx.tokensOf s).2.2 : Int) != 0) = true := by rw [bne_iff_ne]; omega
      generalize Lx.tokensOf s = T1 at *
      clear hR hG h0 h1
      go_enter Tryd.func44, Tryd.ntmps44
      go_wp2_with (first
        | (go_at_call 35; refine (HA.out _ _ _ HS0.out).mono ?_; rintro e w1 ⟨rfl, hB1⟩; have hB1 := hB0.trans (hB1.mono hB0.size))
        | (go_at_call 19; refine (HT1.out w1 hB1).mono ?_; rintro e w2 ⟨v1, rfl, hown1, hB2⟩; have hB2' := hB1.trans (hB2.mono hB1.size)))
      go_ret3
      exact keptRet HV.out rfl hB2'
  · rw [if_pos h0] at hR
    have HV := Lib.hid hR.symm
    have e0 : (((Lx.applyOf s [x]).2 : Int) != 0) = true := by rw [bne_iff_ne]; omega
    generalize Lx.applyOf s [x] = P at *
    clear hR hG h0
    go_enter Tryd.func44, Tryd.ntmps44
    go_wp2_with (go_at_call 35; refine (HA.out _ _ _ HS0.out).mono ?_; rintro e w1 ⟨rfl, hB1⟩; have hB1 := hB0.trans (hB1.mono hB0.size))
    go_ret3
    exact keptRet HV.out rfl hB1
end Go.Proofs.YtchkngabppmbkaaDoor
