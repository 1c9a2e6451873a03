/-
  WALKS: what two lists of tokens have in common.
-/
import Derived.Test.YtchkngabppmbkaaDoorLexZL
namespace Go.Proofs.YtchkngabppmbkaaDoor
open Go.RowKit

theorem tks_ne {l : List Lx.Tk} {i : Nat} (h : i < l.length) : l ≠ [] := by intro e; subst e; simp at h

set_option maxRecDepth 100000 in
set_option maxHeartbeats 4000000 in
theorem common_toks (a b : List Lx.Tk) (g : Int) (A C : Option Addr) (ca cc bg : Nat) (w : World) (hs : a.length ≤ 281474976710656) (ht : b.length ≤ 281474976710656) (hA : Tks w w.heap.size A a) (hC : Tks w w.heap.size C b)
    (hz : ∀ x ∈ a, -1099511627776 ≤ x.pos ∧ x.pos ≤ 1099511627776) (g0 : -1099511627776 ≤ g) (g1 : g ≤ 1099511627776) (hg : w.cell? ⟨bg, 0, none⟩ = some (.int .i64 g)) :
    Calls Tryd.prog 75 #[.slice A a.length ca, .slice C b.length cc, .func (.func 73) #[] #[], .func (.func 74) #[] #[.pointer (some ⟨bg, 0, none⟩)]] w fun e w' =>
      e = .returned (.tuple #[.int .i64 (Lx.headTks a b : Int), .int .i64 (Lx.tailTks g a b : Int)]) ∧ Below w.heap.size w w' := by
  obtain ⟨M, hM⟩ : ∃ M, Lx.tkMost a b = M := ⟨_, rfl⟩
  have hMs : M ≤ a.length := hM ▸ Nat.min_le_left _ _
  have hMt : M ≤ b.length := hM ▸ Nat.min_le_right _ _
  have HMin := Lib.hid (show min a.length b.length = M from hM)
  have HM := Lib.hid hM; clear hM
  obtain ⟨H, hH⟩ : ∃ H, Lx.headTks a b = H := ⟨_, rfl⟩
  have hHm : H ≤ M := hH ▸ HM.out ▸ Lx.headTks_le a b
  rw [hH]
  have HH := Lib.hid hH; clear hH
  obtain ⟨T, hT⟩ : ∃ T, Lx.tailTks g a b = T := ⟨_, rfl⟩
  have hTm : H + T ≤ M := by have := Lx.tailTks_le g a b; rw [HH.out, HM.out, hT] at this; exact this
  rw [hT]
  have HT := Lib.hid hT; clear hT
  have HA := Lib.hid hA; have HC := Lib.hid hC; have HZ := Lib.hid hz; clear hA hC hz
  have hbg := block_of_cell' hg
  have HG := Lib.hid hg; clear hg
  go_enter Tryd.func75, Tryd.ntmps75
  go_wp2
  rw [show min (a.length : Int) (b.length : Int) = (M : Int) by have := HMin.out; omega]
  go_loopw [8] (fun i wr => ∃ k : Nat, k ≤ M ∧ i = .int .i64 k ∧ Hid (Lx.cnt (Lx.headT a b) (M - k) k = H) ∧ Below w.heap.size w wr) (fun i _ => M - (intOf i).toNat)
  case atStart => exact ⟨0, Nat.zero_le _, rfl, by have := HH.out; rw [Lx.headTks, HM.out] at this; exact this, Below.refl _ _⟩
  case round =>
    obtain ⟨k, hk, rfl, hn, hB⟩ := hrel
    have hsz := hB.size
    by_cases hlt : k < M
    · have hd : decide ((k : Int) < (M : Int)) = true := decide_eq_true (by omega)
      have hka : k < a.length := by omega
      have hkb : k < b.length := by omega
      obtain ⟨ba, oa, rfl, hba, hca⟩ := HA.out.below hB (tks_ne hka)
      obtain ⟨bb, ob, rfl, hbb, hcb⟩ := HC.out.below hB (tks_ne hkb)
      obtain ⟨x, hx⟩ : ∃ x, Lx.tkAt a k = x := ⟨_, rfl⟩
      obtain ⟨y, hy⟩ : ∃ y, Lx.tkAt b k = y := ⟨_, rfl⟩
      obtain ⟨x1, x2, x3⟩ := hca k x (by rw [tkAt_get hka, hx])
      obtain ⟨y1, y2, y3⟩ := hcb k y (by rw [tkAt_get hkb, hy])
      have hp : Lx.headT a b k = tkEq x.kind y.kind x.text y.text x.pos y.pos := by rw [tkEq_eq, Lx.headT, hx, hy]
      have HST := Lib.hid (fun hp => (Lx.cnt_step (p := Lx.headT a b) (m := M) hlt hp).symm.trans hn.out)
      have HSP := Lib.hid (fun hp => (Lx.cnt_stop (p := Lx.headT a b) (m := M) (k := k) hp).symm.trans hn.out)
      rw [hp] at HST HSP
      clear hp hca hcb hx hy
      cases hq : tkEq x.kind y.kind x.text y.text x.pos y.pos
      · have hkH : Hid (k = H) := HSP.out hq
        clear HST HSP
        have HCL := Lib.hid (keptSame_any x.kind y.kind x.text y.text x.pos y.pos wr.drew)
        rw [hq] at HCL
        go_wp2
        go_still_tail 13, (by kernel_rfl)
        change wpList _ _ _ _ _ wr.drew
        go_wp2_with (go_at_call 73; refine HCL.out.mono ?_; rintro e w1 ⟨rfl, hB1⟩; have hB := hB.drew.trans (hB1.mono (by simpa using hsz)))
        obtain rfl : k = H := hkH.out
        clear hkH hn hd x1 x2 x3 y1 y2 y3 hq HCL hka hkb
        have hT0 : Hid (Lx.cnt (Lx.tailT g a b) (M - k - 0) 0 = T) := by rw [Hid, ← HT.out, Lx.tailTks, HH.out, HM.out]; rfl
        have hs1 := hB.size
        go_loopw [9] (fun i wr => ∃ j : Nat, k + j ≤ M ∧ i = .int .i64 j ∧ Hid (Lx.cnt (Lx.tailT g a b) (M - k - j) j = T) ∧ Below w.heap.size w wr) (fun i _ => M - (intOf i).toNat)
        case atStart => exact ⟨0, by omega, rfl, hT0, hB⟩
        case round =>
          obtain ⟨j, hj, rfl, hn2, hB2⟩ := hrel
          have hsz2 := hB2.size
          have hw0 : IntKind.i64.wrap ((k : Int) + j) = (k : Int) + j := IntWalk.i64_in _ (by omega)
          have hw1 : IntKind.i64.wrap ((a.length : Int) - 1) = (a.length : Int) - 1 := IntWalk.i64_in _ (by omega)
          have hw2 : IntKind.i64.wrap ((b.length : Int) - 1) = (b.length : Int) - 1 := IntWalk.i64_in _ (by omega)
          by_cases hlt2 : j < M - k
          · have hka : a.length - 1 - j < a.length := by omega
            have hkb : b.length - 1 - j < b.length := by omega
            obtain ⟨ba, oa, hAe, hba, hca⟩ := HA.out.below hB2 (tks_ne hka)
            obtain ⟨bb, ob, hCe, hbb, hcb⟩ := HC.out.below hB2 (tks_ne hkb)
            cases hAe; cases hCe
            obtain ⟨x, hx⟩ : ∃ x, Lx.tkAt a (a.length - 1 - j) = x := ⟨_, rfl⟩
            obtain ⟨y, hy⟩ : ∃ y, Lx.tkAt b (b.length - 1 - j) = y := ⟨_, rfl⟩
            have hxg := tkAt_get hka
            rw [hx] at hxg
            obtain ⟨x1, x2, x3⟩ := hca _ x hxg
            obtain ⟨y1, y2, y3⟩ := hcb _ y (by rw [tkAt_get hkb, hy])
            obtain ⟨z0, z1⟩ := HZ.out x (List.mem_of_getElem? hxg)
            have hp : Lx.tailT g a b j = tkEq x.kind y.kind x.text y.text (x.pos + g) y.pos := by
              have h1 := tkEq_eq (x.moved g) y
              have h2 : Lx.tailT g a b j = decide (x.moved g = y) := by rw [Lx.tailT, hx, hy]
              rw [h2, ← h1]; rfl
            have HST := Lib.hid (fun hp => (Lx.cnt_step (p := Lx.tailT g a b) (m := M - k) hlt2 hp).symm.trans hn2.out)
            have HSP := Lib.hid (fun hp => (Lx.cnt_stop (p := Lx.tailT g a b) (m := M - k) (k := j) hp).symm.trans hn2.out)
            rw [hp] at HST HSP
            have hd : decide ((k : Int) + (j : Int) < (M : Int)) = true := decide_eq_true (by omega)
            have za : IntKind.i64.wrap ((a.length : Int) - 1 - j) = ((a.length - 1 - j : Nat) : Int) := by rw [IntWalk.i64_in _ (by omega)]; omega
            have zb : IntKind.i64.wrap ((b.length : Int) - 1 - j) = ((b.length - 1 - j : Nat) : Int) := by rw [IntWalk.i64_in _ (by omega)]; omega
            have HCL := Lib.hid (keptMoved_any x.kind y.kind x.text y.text x.pos y.pos g bg wr.drew ((hB2.drew.cell (p := ⟨bg, 0, none⟩) hbg).trans HG.out) z0 z1 g0 g1)
            clear hp hca hcb hx hy hxg
            generalize a.length - 1 - j = ja at *
            generalize b.length - 1 - j = jb at *
            cases hq : tkEq x.kind y.kind x.text y.text (x.pos + g) y.pos
            · obtain rfl : j = T := HSP.out hq
              rw [hq] at HCL
              clear HST HSP
              go_wp2
              go_still_tail 23, (by kernel_rfl)
              change wpList _ _ _ _ _ wr.drew
              go_wp2_with (go_at_call 74; refine HCL.out.mono ?_; rintro e w2 ⟨rfl, hB3⟩; have hB4 := hB2.drew.trans (hB3.mono (by simpa using hsz2)))
              go_ret2
              exact ⟨rfl, hB4⟩
            · rw [hq] at HCL
              have HST2 := Lib.hid (HST.out hq)
              clear HST HSP
              go_wp2
              go_still_tail 23, (by kernel_rfl)
              change wpList _ _ _ _ _ wr.drew
              go_wp2_with (go_at_call 74; refine HCL.out.mono ?_; rintro e w2 ⟨rfl, hB3⟩; have hB4 := hB2.drew.trans (hB3.mono (by simpa using hsz2)))
              go_roundw
              case rel => exact ⟨j + 1, by omega, by go_num, HST2.out, hB4⟩
              case measure => simp [intOf]; omega
          · have hd : decide ((k : Int) + (j : Int) < (M : Int)) = false := decide_eq_false (by omega)
            obtain rfl : j = T := (Lx.cnt_end (by omega)).symm.trans hn2.out
            go_wp2
            go_quiet (fail)
            go_wp2
            go_ret2
            exact ⟨rfl, below_drewN hB2 _⟩
      · have HST2 := Lib.hid (HST.out hq)
        clear HST HSP
        have HCL := Lib.hid (keptSame_any x.kind y.kind x.text y.text x.pos y.pos wr.drew)
        rw [hq] at HCL
        go_wp2
        go_still_tail 13, (by kernel_rfl)
        change wpList _ _ _ _ _ wr.drew
        go_wp2_with (go_at_call 73; refine HCL.out.mono ?_; rintro e w1 ⟨rfl, hB1⟩; have hB := hB.drew.trans (hB1.mono (by simpa using hsz)))
        go_roundw
        case rel => exact ⟨k + 1, by omega, by go_num, HST2.out, hB⟩
        case measure => simp [intOf]; omega
    · have hkH : Hid (k = H) := (Lx.cnt_end (by omega)).symm.trans hn.out
      have hd : decide ((k : Int) < (M : Int)) = false := decide_eq_false (by omega)
      go_wp2
      go_quiet (fail)
      have hB := below_drewN hB nq
      go_wp2
      obtain rfl : k = H := hkH.out
      clear hkH hn hd
      generalize wr.drewN nq = w1 at *
      have hT0 : Hid (Lx.cnt (Lx.tailT g a b) (M - k - 0) 0 = T) := by rw [Hid, ← HT.out, Lx.tailTks, HH.out, HM.out]; rfl
      have hs1 := hB.size
      go_loopw [9] (fun i wr => ∃ j : Nat, k + j ≤ M ∧ i = .int .i64 j ∧ Hid (Lx.cnt (Lx.tailT g a b) (M - k - j) j = T) ∧ Below w.heap.size w wr) (fun i _ => M - (intOf i).toNat)
      case atStart => exact ⟨0, by omega, rfl, hT0, hB⟩
      case round =>
        obtain ⟨j, hj, rfl, hn2, hB2⟩ := hrel
        have hsz2 := hB2.size
        have hw0 : IntKind.i64.wrap ((k : Int) + j) = (k : Int) + j := IntWalk.i64_in _ (by omega)
        have hw1 : IntKind.i64.wrap ((a.length : Int) - 1) = (a.length : Int) - 1 := IntWalk.i64_in _ (by omega)
        have hw2 : IntKind.i64.wrap ((b.length : Int) - 1) = (b.length : Int) - 1 := IntWalk.i64_in _ (by omega)
        by_cases hlt2 : j < M - k
        · have hka : a.length - 1 - j < a.length := by omega
          have hkb : b.length - 1 - j < b.length := by omega
          obtain ⟨ba, oa, hAe, hba, hca⟩ := HA.out.below hB2 (tks_ne hka)
          obtain ⟨bb, ob, hCe, hbb, hcb⟩ := HC.out.below hB2 (tks_ne hkb)
          cases hAe; cases hCe
          obtain ⟨x, hx⟩ : ∃ x, Lx.tkAt a (a.length - 1 - j) = x := ⟨_, rfl⟩
          obtain ⟨y, hy⟩ : ∃ y, Lx.tkAt b (b.length - 1 - j) = y := ⟨_, rfl⟩
          have hxg := tkAt_get hka
          rw [hx] at hxg
          obtain ⟨x1, x2, x3⟩ := hca _ x hxg
          obtain ⟨y1, y2, y3⟩ := hcb _ y (by rw [tkAt_get hkb, hy])
          obtain ⟨z0, z1⟩ := HZ.out x (List.mem_of_getElem? hxg)
          have hp : Lx.tailT g a b j = tkEq x.kind y.kind x.text y.text (x.pos + g) y.pos := by
            have h1 := tkEq_eq (x.moved g) y
            have h2 : Lx.tailT g a b j = decide (x.moved g = y) := by rw [Lx.tailT, hx, hy]
            rw [h2, ← h1]; rfl
          have HST := Lib.hid (fun hp => (Lx.cnt_step (p := Lx.tailT g a b) (m := M - k) hlt2 hp).symm.trans hn2.out)
          have HSP := Lib.hid (fun hp => (Lx.cnt_stop (p := Lx.tailT g a b) (m := M - k) (k := j) hp).symm.trans hn2.out)
          rw [hp] at HST HSP
          have hd : decide ((k : Int) + (j : Int) < (M : Int)) = true := decide_eq_true (by omega)
          have za : IntKind.i64.wrap ((a.length : Int) - 1 - j) = ((a.length - 1 - j : Nat) : Int) := by rw [IntWalk.i64_in _ (by omega)]; omega
          have zb : IntKind.i64.wrap ((b.length : Int) - 1 - j) = ((b.length - 1 - j : Nat) : Int) := by rw [IntWalk.i64_in _ (by omega)]; omega
          have HCL := Lib.hid (keptMoved_any x.kind y.kind x.text y.text x.pos y.pos g bg wr.drew ((hB2.drew.cell (p := ⟨bg, 0, none⟩) hbg).trans HG.out) z0 z1 g0 g1)
          clear hp hca hcb hx hy hxg
          generalize a.length - 1 - j = ja at *
          generalize b.length - 1 - j = jb at *
          cases hq : tkEq x.kind y.kind x.text y.text (x.pos + g) y.pos
          · obtain rfl : j = T := HSP.out hq
            rw [hq] at HCL
            clear HST HSP
            go_wp2
            go_still_tail 23, (by kernel_rfl)
            change wpList _ _ _ _ _ wr.drew
            go_wp2_with (go_at_call 74; refine HCL.out.mono ?_; rintro e w2 ⟨rfl, hB3⟩; have hB4 := hB2.drew.trans (hB3.mono (by simpa using hsz2)))
            go_ret2
            exact ⟨rfl, hB4⟩
          · rw [hq] at HCL
            have HST2 := Lib.hid (HST.out hq)
            clear HST HSP
            go_wp2
            go_still_tail 23, (by kernel_rfl)
            change wpList _ _ _ _ _ wr.drew
            go_wp2_with (go_at_call 74; refine HCL.out.mono ?_; rintro e w2 ⟨rfl, hB3⟩; have hB4 := hB2.drew.trans (hB3.mono (by simpa using hsz2)))
            go_roundw
            case rel => exact ⟨j + 1, by omega, by go_num, HST2.out, hB4⟩
            case measure => simp [intOf]; omega
        · have hd : decide ((k : Int) + (j : Int) < (M : Int)) = false := decide_eq_false (by omega)
          obtain rfl : j = T := (Lx.cnt_end (by omega)).symm.trans hn2.out
          go_wp2
          go_quiet (fail)
          go_wp2
          go_ret2
          exact ⟨rfl, below_drewN hB2 _⟩
end Go.Proofs.YtchkngabppmbkaaDoor
