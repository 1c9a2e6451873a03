/-
  WALKS: the reference's Kept.
-/
import Derived.Test.YtchkngabppmbkaaDoorLexZN
import Derived.Test.YtchkngabppmbkaaDoorLexZH
import Derived.Test.YtchkngabppmbkaaDoorLexZ
import Derived.Deep.RegionHeld3
namespace Go.Proofs.YtchkngabppmbkaaDoor
open Go.RowKit

theorem applyOf_one {s : ByteArray} {x : Lx.Spl} (h : (Lx.changesOf s [x]).2 = 0) : Lx.applyOf s [x] = (⟨(Lx.spliceOut s 0 [x]).toArray⟩, 0) := by unfold Lx.applyOf; rw [if_neg (by omega)]
theorem applyOf_bad {s : ByteArray} {x : Lx.Spl} (h : (Lx.changesOf s [x]).2 ≠ 0) : Lx.applyOf s [x] = (⟨#[]⟩, (Lx.changesOf s [x]).2) := by unfold Lx.applyOf; rw [if_pos h]

set_option maxRecDepth 100000 in
set_option maxHeartbeats 4000000 in
theorem refKept_any (s : ByteArray) (x : Lx.Spl) (w : World) (hs : s.size ≤ 281474976710656) (hx : x.text.size ≤ 1099511627776) :
    Calls Tryd.prog 45 #[.string s, .agg #[.int .i64 x.lo, .int .i64 x.hi, .string x.text]] w (KeptRet (Lx.keptOf s x) w) := by
  have htx : ∀ y ∈ [x], y.text.size ≤ 1099511627776 := fun y hy => by rw [List.mem_singleton.1 hy]; exact hx
  have HA := Lib.hid (fun A c W hS => refCheck_any s [x] A c W hs (by simp) htx hS)
  simp only [List.length_singleton] at HA
  have HS0 := Lib.hid (spls_two w x)
  have hB0 : Below w.heap.size w ((w.alloc (.cells #[.int .i64 x.lo, .int .i64 x.hi, .string x.text] 56)).alloc (.cells #[.int .i64 x.lo, .int .i64 x.hi, .string x.text] 56)) := ((Below.refl _ _).alloc (Nat.le_refl _) _).alloc (by simp) _
  have hbx : w.heap.size < ((w.alloc (.cells #[.int .i64 x.lo, .int .i64 x.hi, .string x.text] 56)).alloc (.cells #[.int .i64 x.lo, .int .i64 x.hi, .string x.text] 56)).heap.size := by simp; omega
  obtain ⟨R, hR⟩ : ∃ R, Lx.keptOf s x = R := ⟨_, rfl⟩
  rw [hR]
  unfold Lx.keptOf at hR
  by_cases h0 : (Lx.changesOf s [x]).2 = 0
  · have hap := applyOf_one h0
    have ha0 : (Lx.applyOf s [x]).2 = 0 := by rw [hap]
    rw [if_neg (by omega)] at hR
    have hs0 := (Lx.applyOne ha0).1
    have HP := Lib.hid (fun A c W hS => refSpliced_any s [x] A c W hs0 (by simp) (Lx.changesOf_ok h0).2.2.2.1 htx hS)
    simp only [List.length_singleton] at HP
    obtain ⟨P, hP⟩ : ∃ P : ByteArray, ⟨(Lx.spliceOut s 0 [x]).toArray⟩ = P := ⟨_, rfl⟩
    rw [hap] at hR
    rw [hP] at HP hR
    simp only at hR
    have hTz : P.size ≤ 5000000000000 := by
      obtain ⟨h1, h2, h3, h4, h5⟩ := Lx.applyOne ha0
      have e1 := Lx.bytes_length (Lx.applyOf s [x]).1
      rw [h5, List.length_append, List.length_append, List.length_take, List.length_drop, Lx.bytes_length, Lx.bytes_length] at e1
      rw [hap, hP] at e1
      simp only at e1
      omega
    rw [h0] at HA
    have HT1 := Lib.hid (fun W => refTokens_any s W hs)
    have hT2' : P.size ≤ 281474976710656 := by omega
    have HT2 := Lib.hid (fun W => refTokens_any P W hT2')
    clear hap ha0 hP htx h0
    by_cases h1 : (Lx.tokensOf s).2.2 = 0
    · rw [if_neg (by omega)] at hR
      by_cases h2 : (Lx.tokensOf P).2.2 = 0
      · rw [if_neg (by omega)] at hR
        have hPz := (Lx.tokensOf_ok h2).1
        have hl1 : (Lx.toksOf s).length = (Lx.tokensOf s).1.length := by rw [Lx.toksOf, List.length_map]
        have hl2 : (Lx.toksOf P).length = (Lx.tokensOf P).1.length := by rw [Lx.toksOf, List.length_map]
        have hn1 := tokensOf_len' s
        have hn2 := tokensOf_len' P
        have e1 : (((Lx.tokensOf s).2.2 : Int) != 0) = false := by rw [bne_eq_false_iff_eq]; omega
        have e2 : (((Lx.tokensOf P).2.2 : Int) != 0) = false := by rw [bne_eq_false_iff_eq]; omega
        have hw1 : IntKind.i64.wrap ((P.size : Int) - s.size) = (P.size : Int) - s.size := IntWalk.i64_in _ (by omega)
        have HV := Lib.hid hR.symm
        have HZ := Lib.hid (toksOf_pos (s := s))
        have HTK1 := Lib.hid (show ∀ (w : World) (base : Nat) (v : Value), w.ownsRow base 63 3 v (Lx.tokensOf s).1.length (toksCells (Lx.tokensOf s).1) → ∃ ao cap, v = .slice ao (Lx.tokensOf s).1.length cap ∧ Tks w w.heap.size ao (Lx.toksOf s) from fun _ _ _ h => own_tks h)
        have HTK2 := Lib.hid (show ∀ (w : World) (base : Nat) (v : Value), w.ownsRow base 63 3 v (Lx.tokensOf P).1.length (toksCells (Lx.tokensOf P).1) → ∃ ao cap, v = .slice ao (Lx.tokensOf P).1.length cap ∧ Tks w w.heap.size ao (Lx.toksOf P) from fun _ _ _ h => own_tks h)
        obtain ⟨a, ha⟩ : ∃ a, Lx.toksOf s = a := ⟨_, rfl⟩
        obtain ⟨b, hb⟩ : ∃ b, Lx.toksOf P = b := ⟨_, rfl⟩
        rw [ha] at HV HZ HTK1 hl1
        rw [hb] at HV HTK2 hl2
        rw [← hl1] at HTK1 hn1
        rw [← hl2] at HTK2 hn2
        have HT1' := Lib.hid (show ∀ W, Calls Tryd.prog 20 #[.string s] W fun e w' => ∃ ao cap, e = .returned (.tuple #[.slice ao a.length cap, .int .i64 ((Lx.tokensOf s).2.1 : Int), .int .i64 ((Lx.tokensOf s).2.2 : Int)]) ∧ Tks w' w'.heap.size ao a ∧ Below W.heap.size W w' from fun W => (HT1.out W).mono (by
          rintro e w' ⟨v, he, hown, hB⟩
          rw [← hl1] at hown
          obtain ⟨ao, cap, rfl, ht⟩ := HTK1.out _ _ _ hown
          exact ⟨ao, cap, he, ht, hB⟩))
        have HT2' := Lib.hid (show ∀ W, Calls Tryd.prog 20 #[.string P] W fun e w' => ∃ ao cap, e = .returned (.tuple #[.slice ao b.length cap, .int .i64 ((Lx.tokensOf P).2.1 : Int), .int .i64 ((Lx.tokensOf P).2.2 : Int)]) ∧ Tks w' w'.heap.size ao b ∧ Below W.heap.size W w' from fun W => (HT2.out W).mono (by
          rintro e w' ⟨v, he, hown, hB⟩
          rw [← hl2] at hown
          obtain ⟨ao, cap, rfl, ht⟩ := HTK2.out _ _ _ hown
          exact ⟨ao, cap, he, ht, hB⟩))
        clear HT1 HT2 HTK1 HTK2 hl1 hl2 ha hb hR h1 h2
        generalize Lx.tokensOf s = T1 at *
        generalize Lx.tokensOf P = T2 at *
        obtain ⟨M, hM⟩ : ∃ M, Lx.tkMost a b = M := ⟨_, rfl⟩
        have hMs : M ≤ a.length := hM ▸ Nat.min_le_left _ _
        have hMt : M ≤ b.length := hM ▸ Nat.min_le_right _ _
        have hMin : min a.length b.length = M := hM
        have HM := Lib.hid hM; clear hM
        obtain ⟨H, hH⟩ : ∃ H, Lx.headTks a b = H := ⟨_, rfl⟩
        have hHm : H ≤ M := hH ▸ HM.out ▸ Lx.headTks_le a b
        rw [hH] at HV
        have HH := Lib.hid hH; clear hH
        obtain ⟨g, hg⟩ : ∃ g : Int, (P.size : Int) - s.size = g := ⟨_, rfl⟩
        rw [hg] at HV hw1
        have g0 : -2500 ≤ g := by omega
        have g1 : g ≤ 2500 := by omega
        obtain ⟨T, hT⟩ : ∃ T, Lx.tailTks g a b = T := ⟨_, rfl⟩
        have hTm : H + T ≤ M := by have := Lx.tailTks_le g a b; rw [HH.out, HM.out, hT] at this; exact this
        rw [hT] at HV
        have HT := Lib.hid hT; clear hT
        go_enter Tryd.func45, Tryd.ntmps45
        go_wp2_with (first
          | (go_at_call 67; refine (HA.out _ _ _ HS0.out).mono ?_; rintro e w1 ⟨rfl, hB1⟩; have x0 := (hB1.cell (p := ⟨w.heap.size, 0, none⟩) hbx); have x1 := (hB1.cell (p := ⟨w.heap.size, 1, none⟩) hbx); have x2 := (hB1.cell (p := ⟨w.heap.size, 2, none⟩) hbx); have hBw1 := hB0.trans (hB1.mono hB0.size))
          | (go_at_call 20; refine (HT2'.out w3).mono ?_; rintro e w4 ⟨ao2, cap2, rfl, htk2, hB4⟩; have hBw4 := hBw3.trans (hB4.mono hBw3.size); have htk1' := tksLater htk1 hB4)
          | (go_at_call 20; refine (HT1'.out w2).mono ?_; rintro e w3 ⟨ao1, cap1, rfl, htk1, hB3⟩; have hBw3 := hBw2.trans (hB3.mono hBw2.size))
          | (go_at_call 68; refine (HP.out _ _ _ (spls_one _ x)).mono ?_; rintro e w2 ⟨rfl, hB2⟩; have hBw2 := (hBw1.alloc hBw1.size _).trans (hB2.mono (by have := hBw1.size; simp; omega))))
        have hTL0 : Hid (Lx.cnt (Lx.headT a b) (M - 0) 0 = H) := by have := HH.out; rw [Lx.headTks, HM.out] at this; exact this
        have HK1 := Lib.hid htk1'; have HK2 := Lib.hid htk2
        clear htk1 htk1' htk2 hB1 hB2 hB3 hB4 HA HS0 HP HT1' HT2' x0 x1 x2 hbx hB0
        have hsz4 := hBw4.size
        go_loopw [14] (fun i wr => ∃ k : Nat, k ≤ M ∧ i = .int .i64 k ∧ Hid (Lx.cnt (Lx.headT a b) (M - k) k = H) ∧ Below w4.heap.size w4 wr) (fun i _ => M - (intOf i).toNat)
        case atStart => exact ⟨0, Nat.zero_le _, rfl, hTL0, Below.refl _ _⟩
        case round =>
          obtain ⟨k, hk, rfl, hn, hB⟩ := hrel
          have hsz := hB.size
          by_cases hc : k < M ∧ Lx.headT a b k = true
          · obtain ⟨hlt, hp⟩ := hc
            have hka : k < a.length := by omega
            have hkb : k < b.length := by omega
            have d1 : decide ((k : Int) < (a.length : Int)) = true := decide_eq_true (by omega)
            have d2 : decide ((k : Int) < (b.length : Int)) = true := decide_eq_true (by omega)
            obtain ⟨ba, oa, hAe, hba, hca⟩ := HK1.out.below hB (tks_ne hka)
            obtain ⟨bb, ob, hCe, hbb, hcb⟩ := HK2.out.below hB (tks_ne hkb)
            cases hAe; cases hCe
            obtain ⟨x1, x2, x3⟩ := hca k _ (tkAt_get hka)
            obtain ⟨y1, y2, y3⟩ := hcb k _ (tkAt_get hkb)
            have hq : tkEq (Lx.tkAt a k).kind (Lx.tkAt b k).kind (Lx.tkAt a k).text (Lx.tkAt b k).text (Lx.tkAt a k).pos (Lx.tkAt b k).pos = true := by rw [tkEq_eq]; exact hp
            have HST := Lib.hid ((Lx.cnt_step (p := Lx.headT a b) (m := M) hlt hp).symm.trans hn.out)
            have qn := run_eql_tk
            have qg : ∀ (x y : Operand) (xs ys : Array Value) (w : World), (eqGuard .eql 63 x y (.agg xs) (.agg ys)).run Tryd.prog w = .ok () w := fun x y xs ys w => run_eqGuard_agg w _ _ x y xs ys (by kernel_rfl)
            generalize Lx.tkAt a k = x at *
            generalize Lx.tkAt b k = y at *
            clear hp hca hcb
            go_wp2
            go_quiet (fail)
            go_wp2
            go_roundw
            case rel => exact ⟨k + 1, by omega, by go_num, HST.out, below_drewN hB _⟩
            case measure => simp [intOf]; omega
          · have hkH : Hid (k = H) := by
              by_cases hlt : k < M
              · have hp : Lx.headT a b k = false := by
                  cases hq : Lx.headT a b k
                  · rfl
                  · exact absurd ⟨hlt, hq⟩ hc
                exact (Lx.cnt_stop hp).symm.trans hn.out
              · exact (Lx.cnt_end (by omega)).symm.trans hn.out
            have h3 : (k < a.length ∧ k < b.length ∧ Lx.headT a b k = false) ∨ (k < a.length ∧ ¬ k < b.length) ∨ ¬ k < a.length := by
              by_cases hka : k < a.length
              · by_cases hkb : k < b.length
                · refine .inl ⟨hka, hkb, ?_⟩
                  cases hq : Lx.headT a b k
                  · rfl
                  · exact absurd ⟨by omega, hq⟩ hc
                · exact .inr (.inl ⟨hka, hkb⟩)
              · exact .inr (.inr hka)
            clear hc hn
            have qn := run_eql_tk
            have qg : ∀ (x y : Operand) (xs ys : Array Value) (w : World), (eqGuard .eql 63 x y (.agg xs) (.agg ys)).run Tryd.prog w = .ok () w := fun x y xs ys w => run_eqGuard_agg w _ _ x y xs ys (by kernel_rfl)
            rcases h3 with ⟨hka, hkb, hp⟩ | ⟨hka, hkb⟩ | hka
            rotate_left
            · have d1 : decide ((k : Int) < (a.length : Int)) = true := decide_eq_true (by omega)
              have d2 : decide ((k : Int) < (b.length : Int)) = false := decide_eq_false (by omega)
              go_wp2
              go_quiet (fail)
              go_wp2
              obtain rfl : k = H := hkH.out
              have hB := below_drewN hB nq
              generalize wr.drewN nq = w5 at *
              have hT0 : Hid (Lx.cnt (Lx.tailT g a b) (M - k - 0) 0 = T) := by rw [Hid, ← HT.out, Lx.tailTks, HH.out, HM.out]; rfl
              have hs1 := hB.size
              go_loopw [15] (fun i wr => ∃ j : Nat, k + j ≤ M ∧ i = .int .i64 j ∧ Hid (Lx.cnt (Lx.tailT g a b) (M - k - j) j = T) ∧ Below w4.heap.size w4 wr) (fun i _ => M - (intOf i).toNat)
              case atStart => exact ⟨0, by omega, rfl, hT0, hB⟩
              case round =>
                obtain ⟨j, hj, rfl, hn2, hB2⟩ := hrel
                have hsz2 := hB2.size
                by_cases hlt2 : j < M - k
                · exfalso; omega
                · have q3 : decide ((j : Int) < (a.length : Int) - k) = true ∨ decide ((j : Int) < (a.length : Int) - k) = false := by cases decide ((j : Int) < (a.length : Int) - k) <;> simp
                  obtain rfl : j = T := (Lx.cnt_end (by omega)).symm.trans hn2.out
                  have q4 : ¬ ((j : Int) < (a.length : Int) - k ∧ (j : Int) < (b.length : Int) - k) := by omega
                  by_cases q5 : (j : Int) < (a.length : Int) - k
                  · have q6 : ¬ (j : Int) < (b.length : Int) - k := fun h => q4 ⟨q5, h⟩
                    have q7 : decide ((j : Int) < (a.length : Int) - k) = true := decide_eq_true q5
                    have q8 : decide ((j : Int) < (b.length : Int) - k) = false := decide_eq_false q6
                    clear q3 q4
                    go_wp2
                    go_ret3
                    exact keptRet HV.out rfl (hBw4.trans (hB2.mono hsz4))
                  · have q7 : decide ((j : Int) < (a.length : Int) - k) = false := decide_eq_false q5
                    clear q3 q4
                    go_wp2
                    go_ret3
                    exact keptRet HV.out rfl (hBw4.trans (hB2.mono hsz4))
            · have d1 : decide ((k : Int) < (a.length : Int)) = false := decide_eq_false (by omega)
              go_wp2
              go_quiet (fail)
              go_wp2
              obtain rfl : k = H := hkH.out
              have hB := below_drewN hB nq
              generalize wr.drewN nq = w5 at *
              have hT0 : Hid (Lx.cnt (Lx.tailT g a b) (M - k - 0) 0 = T) := by rw [Hid, ← HT.out, Lx.tailTks, HH.out, HM.out]; rfl
              have hs1 := hB.size
              go_loopw [15] (fun i wr => ∃ j : Nat, k + j ≤ M ∧ i = .int .i64 j ∧ Hid (Lx.cnt (Lx.tailT g a b) (M - k - j) j = T) ∧ Below w4.heap.size w4 wr) (fun i _ => M - (intOf i).toNat)
              case atStart => exact ⟨0, by omega, rfl, hT0, hB⟩
              case round =>
                obtain ⟨j, hj, rfl, hn2, hB2⟩ := hrel
                have hsz2 := hB2.size
                by_cases hlt2 : j < M - k
                · exfalso; omega
                · have q3 : decide ((j : Int) < (a.length : Int) - k) = true ∨ decide ((j : Int) < (a.length : Int) - k) = false := by cases decide ((j : Int) < (a.length : Int) - k) <;> simp
                  obtain rfl : j = T := (Lx.cnt_end (by omega)).symm.trans hn2.out
                  have q4 : ¬ ((j : Int) < (a.length : Int) - k ∧ (j : Int) < (b.length : Int) - k) := by omega
                  by_cases q5 : (j : Int) < (a.length : Int) - k
                  · have q6 : ¬ (j : Int) < (b.length : Int) - k := fun h => q4 ⟨q5, h⟩
                    have q7 : decide ((j : Int) < (a.length : Int) - k) = true := decide_eq_true q5
                    have q8 : decide ((j : Int) < (b.length : Int) - k) = false := decide_eq_false q6
                    clear q3 q4
                    go_wp2
                    go_ret3
                    exact keptRet HV.out rfl (hBw4.trans (hB2.mono hsz4))
                  · have q7 : decide ((j : Int) < (a.length : Int) - k) = false := decide_eq_false q5
                    clear q3 q4
                    go_wp2
                    go_ret3
                    exact keptRet HV.out rfl (hBw4.trans (hB2.mono hsz4))
            · have d1 : decide ((k : Int) < (a.length : Int)) = true := decide_eq_true (by omega)
              have d2 : decide ((k : Int) < (b.length : Int)) = true := decide_eq_true (by omega)
              obtain ⟨ba, oa, hAe, hba, hca⟩ := HK1.out.below hB (tks_ne hka)
              obtain ⟨bb, ob, hCe, hbb, hcb⟩ := HK2.out.below hB (tks_ne hkb)
              cases hAe; cases hCe
              obtain ⟨x1, x2, x3⟩ := hca k _ (tkAt_get hka)
              obtain ⟨y1, y2, y3⟩ := hcb k _ (tkAt_get hkb)
              have hq : tkEq (Lx.tkAt a k).kind (Lx.tkAt b k).kind (Lx.tkAt a k).text (Lx.tkAt b k).text (Lx.tkAt a k).pos (Lx.tkAt b k).pos = false := by rw [tkEq_eq]; exact hp
              generalize Lx.tkAt a k = x at *
              generalize Lx.tkAt b k = y at *
              clear hp hca hcb
              go_wp2
              go_quiet (fail)
              clear x1 x2 x3 y1 y2 y3 hq
              go_wp2
              obtain rfl : k = H := hkH.out
              have hB := below_drewN hB nq
              generalize wr.drewN nq = w5 at *
              have hT0 : Hid (Lx.cnt (Lx.tailT g a b) (M - k - 0) 0 = T) := by rw [Hid, ← HT.out, Lx.tailTks, HH.out, HM.out]; rfl
              have hs1 := hB.size
              go_loopw [15] (fun i wr => ∃ j : Nat, k + j ≤ M ∧ i = .int .i64 j ∧ Hid (Lx.cnt (Lx.tailT g a b) (M - k - j) j = T) ∧ Below w4.heap.size w4 wr) (fun i _ => M - (intOf i).toNat)
              case atStart => exact ⟨0, by omega, rfl, hT0, hB⟩
              case round =>
                obtain ⟨j, hj, rfl, hn2, hB2⟩ := hrel
                have hsz2 := hB2.size
                by_cases hlt2 : j < M - k
                · have hka : a.length - 1 - j < a.length := by omega
                  have hkb : b.length - 1 - j < b.length := by omega
                  have q1 : decide ((j : Int) < (a.length : Int) - k) = true := decide_eq_true (by omega)
                  have q2 : decide ((j : Int) < (b.length : Int) - k) = true := decide_eq_true (by omega)
                  obtain ⟨ba, oa, hAe, hba, hca⟩ := HK1.out.below hB2 (tks_ne hka)
                  obtain ⟨bb, ob, hCe, hbb, hcb⟩ := HK2.out.below hB2 (tks_ne hkb)
                  cases hAe; cases hCe
                  obtain ⟨x, hx⟩ : ∃ x, Lx.tkAt a (a.length - 1 - j) = x := ⟨_, rfl⟩
                  obtain ⟨y, hy⟩ : ∃ y, Lx.tkAt b (b.length - 1 - j) = y := ⟨_, rfl⟩
                  have hxg := tkAt_get hka
                  rw [hx] at hxg
                  obtain ⟨x1, x2, x3⟩ := hca _ x hxg
                  obtain ⟨y1, y2, y3⟩ := hcb _ y (by rw [tkAt_get hkb, hy])
                  obtain ⟨z0, z1⟩ := HZ.out x (List.mem_of_getElem? hxg)
                  have hp : Lx.tailT g a b j = tkEq x.kind y.kind x.text y.text (x.pos + g) y.pos := by
                    have h1 := tkEq_eq (x.moved g) y
                    have h2 : Lx.tailT g a b j = decide (x.moved g = y) := by rw [Lx.tailT, hx, hy]
                    rw [h2, ← h1]; rfl
                  have HST := Lib.hid (fun hp => (Lx.cnt_step (p := Lx.tailT g a b) (m := M - k) hlt2 hp).symm.trans hn2.out)
                  have HSP := Lib.hid (fun hp => (Lx.cnt_stop (p := Lx.tailT g a b) (m := M - k) (k := j) hp).symm.trans hn2.out)
                  rw [hp] at HST HSP
                  have za : (a.length : Int) - 1 - j = ((a.length - 1 - j : Nat) : Int) := by omega
                  have zb : (b.length : Int) - 1 - j = ((b.length - 1 - j : Nat) : Int) := by omega
                  have qn := run_neq_tk
                  have qg : ∀ (x y : Operand) (xs ys : Array Value) (w : World), (eqGuard .neq 63 x y (.agg xs) (.agg ys)).run Tryd.prog w = .ok () w := fun x y xs ys w => run_eqGuard_agg w _ _ x y xs ys (by kernel_rfl)
                  clear hp hca hcb hx hy hxg
                  have la := Nat.lt_of_lt_of_le hba hsz2
                  have lb := Nat.lt_of_lt_of_le hbb hsz2
                  have hw5 : IntKind.i64.wrap ((a.length : Int) - 1) = (a.length : Int) - 1 := IntWalk.i64_in _ (by omega)
                  have hw6 : IntKind.i64.wrap ((b.length : Int) - 1) = (b.length : Int) - 1 := IntWalk.i64_in _ (by omega)
                  have hw9 : IntKind.i64.wrap ((a.length - 1 - j : Nat) : Int) = ((a.length - 1 - j : Nat) : Int) := IntWalk.i64_in _ (by omega)
                  have hw10 : IntKind.i64.wrap ((b.length - 1 - j : Nat) : Int) = ((b.length - 1 - j : Nat) : Int) := IntWalk.i64_in _ (by omega)
                  have ia0 : (0 : Int) ≤ ((a.length - 1 - j : Nat) : Int) := by omega
                  have ia1 : ((a.length - 1 - j : Nat) : Int) < (a.length : Int) := by omega
                  have ib0 : (0 : Int) ≤ ((b.length - 1 - j : Nat) : Int) := by omega
                  have ib1 : ((b.length - 1 - j : Nat) : Int) < (b.length : Int) := by omega
                  generalize a.length - 1 - j = ja at *
                  generalize b.length - 1 - j = jb at *
                  cases hq : tkEq x.kind y.kind x.text y.text (x.pos + g) y.pos
                  · have hjT : Hid (j = T) := HSP.out hq
                    clear HST HSP
                    all_goals skip
                    go_wp2
                    go_region_held3 (fun w' => w'.cell? ⟨ba, oa + ja * 3, none⟩ = some (.int .u8 x.kind) ∧ w'.cell? ⟨ba, oa + ja * 3 + 1, none⟩ = some (.string x.text) ∧ w'.cell? ⟨ba, oa + ja * 3 + 2, none⟩ = some (.int .i64 x.pos) ∧ w'.cell? ⟨bb, ob + jb * 3, none⟩ = some (.int .u8 y.kind) ∧ w'.cell? ⟨bb, ob + jb * 3 + 1, none⟩ = some (.string y.text) ∧ w'.cell? ⟨bb, ob + jb * 3 + 2, none⟩ = some (.int .i64 y.pos))
                      (first
                        | exact ⟨x1, x2, x3, y1, y2, y3⟩
                        | go_keep)
                      ((fail))
                    all_goals
                      go_wp2
                      obtain rfl : j = T := hjT.out
                      go_ret3
                      refine keptRet HV.out rfl (hBw4.trans (?_ : Below w.heap.size w4 _))
                      refine Below.mono ?_ hsz4
                      repeat (first | assumption | refine Below.drew ?_ | refine below_drewN ?_ _ | refine Below.setCell ?_ (by first | omega | (simp; omega) | simp) _ | refine Below.alloc ?_ (by first | omega | (simp; omega) | simp) _)
                  · have HST2 := Lib.hid (HST.out hq)
                    clear HST HSP
                    go_wp2
                    go_region_held3 (fun w' => w'.cell? ⟨ba, oa + ja * 3, none⟩ = some (.int .u8 x.kind) ∧ w'.cell? ⟨ba, oa + ja * 3 + 1, none⟩ = some (.string x.text) ∧ w'.cell? ⟨ba, oa + ja * 3 + 2, none⟩ = some (.int .i64 x.pos) ∧ w'.cell? ⟨bb, ob + jb * 3, none⟩ = some (.int .u8 y.kind) ∧ w'.cell? ⟨bb, ob + jb * 3 + 1, none⟩ = some (.string y.text) ∧ w'.cell? ⟨bb, ob + jb * 3 + 2, none⟩ = some (.int .i64 y.pos))
                      (first
                        | exact ⟨x1, x2, x3, y1, y2, y3⟩
                        | go_keep)
                      ((fail))
                    all_goals
                      go_wp2
                      go_roundw
                      case rel =>
                        refine ⟨j + 1, by omega, by go_num, HST2.out, ?_⟩
                        repeat (first | assumption | refine Below.drew ?_ | refine below_drewN ?_ _ | refine Below.setCell ?_ (by first | omega | (simp; omega) | simp) _ | refine Below.alloc ?_ (by first | omega | (simp; omega) | simp) _)
                      case measure => simp [intOf]; omega
                · have q3 : decide ((j : Int) < (a.length : Int) - k) = true ∨ decide ((j : Int) < (a.length : Int) - k) = false := by cases decide ((j : Int) < (a.length : Int) - k) <;> simp
                  obtain rfl : j = T := (Lx.cnt_end (by omega)).symm.trans hn2.out
                  have q4 : ¬ ((j : Int) < (a.length : Int) - k ∧ (j : Int) < (b.length : Int) - k) := by omega
                  by_cases q5 : (j : Int) < (a.length : Int) - k
                  · have q6 : ¬ (j : Int) < (b.length : Int) - k := fun h => q4 ⟨q5, h⟩
                    have q7 : decide ((j : Int) < (a.length : Int) - k) = true := decide_eq_true q5
                    have q8 : decide ((j : Int) < (b.length : Int) - k) = false := decide_eq_false q6
                    clear q3 q4
                    go_wp2
                    go_ret3
                    exact keptRet HV.out rfl (hBw4.trans (hB2.mono hsz4))
                  · have q7 : decide ((j : Int) < (a.length : Int) - k) = false := decide_eq_false q5
                    clear q3 q4
                    go_wp2
                    go_ret3
                    exact keptRet HV.out rfl (hBw4.trans (hB2.mono hsz4))
      · rw [if_pos h2] at hR
        have HV := Lib.hid hR.symm
        have e1 : (((Lx.tokensOf s).2.2 : Int) != 0) = false := by rw [bne_eq_false_iff_eq]; omega
        have e2 : (((Lx.tokensOf P).2.2 : Int) != 0) = true := by rw [bne_iff_ne]; omega
        generalize Lx.tokensOf s = T1 at *
        generalize Lx.tokensOf P = T2 at *
        clear hR h1 h2
        go_enter Tryd.func45, Tryd.ntmps45
        go_wp2_with (first
          | (go_at_call 67; refine (HA.out _ _ _ HS0.out).mono ?_; rintro e w1 ⟨rfl, hB1⟩; have x0 := (hB1.cell (p := ⟨w.heap.size, 0, none⟩) hbx); have x1 := (hB1.cell (p := ⟨w.heap.size, 1, none⟩) hbx); have x2 := (hB1.cell (p := ⟨w.heap.size, 2, none⟩) hbx); have hBw1 := hB0.trans (hB1.mono hB0.size))
          | (go_at_call 20; refine (HT2.out w3).mono ?_; rintro e w4 ⟨v2, rfl, -, hB4⟩; have hBw4 := hBw3.trans (hB4.mono hBw3.size))
          | (go_at_call 20; refine (HT1.out w2).mono ?_; rintro e w3 ⟨v1, rfl, -, hB3⟩; have hBw3 := hBw2.trans (hB3.mono hBw2.size))
          | (go_at_call 68; refine (HP.out _ _ _ (spls_one _ x)).mono ?_; rintro e w2 ⟨rfl, hB2⟩; have hBw2 := (hBw1.alloc hBw1.size _).trans (hB2.mono (by have := hBw1.size; simp; omega))))
        go_ret3
        exact keptRet HV.out rfl hBw4
    · rw [if_pos h1] at hR
      have HV := Lib.hid hR.symm
      have e1 : (((Lx.tokensOf s).2.2 : Int) != 0) = true := by rw [bne_iff_ne]; omega
      generalize Lx.tokensOf s = T1 at *
      clear hR h1
      go_enter Tryd.func45, Tryd.ntmps45
      go_wp2_with (first
        | (go_at_call 67; refine (HA.out _ _ _ HS0.out).mono ?_; rintro e w1 ⟨rfl, hB1⟩; have x0 := (hB1.cell (p := ⟨w.heap.size, 0, none⟩) hbx); have x1 := (hB1.cell (p := ⟨w.heap.size, 1, none⟩) hbx); have x2 := (hB1.cell (p := ⟨w.heap.size, 2, none⟩) hbx); have hBw1 := hB0.trans (hB1.mono hB0.size))
        | (go_at_call 20; refine (HT1.out w2).mono ?_; rintro e w3 ⟨v1, rfl, -, hB3⟩; have hBw3 := hBw2.trans (hB3.mono hBw2.size))
        | (go_at_call 68; refine (HP.out _ _ _ (spls_one _ x)).mono ?_; rintro e w2 ⟨rfl, hB2⟩; have hBw2 := (hBw1.alloc hBw1.size _).trans (hB2.mono (by have := hBw1.size; simp; omega))))
      go_ret3
      exact keptRet HV.out rfl hBw3
  · have hap := applyOf_bad h0
    rw [if_pos (by rw [hap]; exact h0)] at hR
    rw [hap] at hR
    have HV := Lib.hid hR.symm
    have e0 : (((Lx.changesOf s [x]).2 : Int) != 0) = true := by rw [bne_iff_ne]; omega
    generalize (Lx.changesOf s [x]).2 = er at *
    clear hR h0 hap htx
    go_enter Tryd.func45, Tryd.ntmps45
    go_wp2_with (go_at_call 67; refine (HA.out _ _ _ HS0.out).mono ?_; rintro e w1 ⟨rfl, hB1⟩; have hB1 := hB0.trans (hB1.mono hB0.size))
    go_ret3
    exact keptRet HV.out rfl hB1
end Go.Proofs.YtchkngabppmbkaaDoor
