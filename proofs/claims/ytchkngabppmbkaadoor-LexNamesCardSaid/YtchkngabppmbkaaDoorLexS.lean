/-
  WALKS: the reference's Diff.
-/
import Derived.Test.YtchkngabppmbkaaDoorLexR
import Derived.Test.YtchkngabppmbkaaDoorSpecH
namespace Go.Proofs.YtchkngabppmbkaaDoor
open Go.RowKit

def splsCells (l : List Lx.Spl) : List Value := l.flatMap splCells

theorem diff_end (a b : ByteArray) (wr w : World) (k j : Nat) (e : Ending) (hk : Lx.headLen a b = k) (hj : Lx.tailLen a b = j) (hB : Below w.heap.size w wr) (_hsl : ((b.size : Int) - j).toNat = b.size - j) (W : World)
    (hW : W = (wr.drew.alloc (.cells #[.int .i64 (k : Int), .int .i64 ((a.size : Int) - j), .string (b.extract k (b.size - j))] 56))) (he : e = .returned (.tuple #[.slice (some ⟨wr.heap.size, 0, none⟩) 1 1, .int .i64 0])) :
    ∃ ao cap, e = .returned (.tuple #[.slice ao [Lx.diffSpl a b].length cap, .int .i64 ((0 : Nat) : Int)]) ∧ Spls W W.heap.size ao [Lx.diffSpl a b] ∧ Below w.heap.size w W := by
  subst hW he
  refine ⟨_, 1, rfl, fun _ => ⟨_, _, rfl, by simp, fun i x hx => ?_⟩, hB.drew.alloc hB.size _⟩
  rcases i with _ | i
  · simp at hx; subst hx
    unfold Lx.diffSpl
    rw [hk, hj]
    exact ⟨cells_new_at wr.drew _ _ 0 _ rfl, cells_new_at wr.drew _ _ 1 _ rfl, cells_new_at wr.drew _ _ 2 _ rfl⟩
  · simp at hx

set_option maxRecDepth 100000 in
set_option maxHeartbeats 4000000 in
theorem refDiff_any (a b : ByteArray) (w : World) (ha : a.size ≤ 281474976710656) (hb : b.size ≤ 281474976710656) :
    Calls Tryd.prog 43 #[.string a, .string b] w fun e w' => ∃ ao cap, e = .returned (.tuple #[.slice ao (Lx.diffOf a b).1.length cap, .int .i64 ((Lx.diffOf a b).2 : Int)]) ∧
      Spls w' w'.heap.size ao (Lx.diffOf a b).1 ∧ Below w.heap.size w w' := by
  have HA : a.size ≤ 9223372036854775807 := by omega
  have HB : b.size ≤ 9223372036854775807 := by omega
  unfold Lx.diffOf
  by_cases h1 : (Lx.textErr a).2 ≠ 0
  · rw [if_pos h1]
    have h1' : (((Lx.textErr a).2 : Int) != 0) = true := by rw [bne_iff_ne]; omega
    clear h1
    go_enter Tryd.func43, Tryd.ntmps43
    go_wp2_with (go_at_call 51; refine (refTextError_any _ _ (by assumption)).mono ?_; rintro e w1 ⟨rfl, rfl⟩)
    go_ret2
    exact ⟨none, 0, rfl, fun h => absurd rfl h, Below.refl _ _⟩
  · have h1 : (Lx.textErr a).2 = 0 := by omega
    rw [if_neg (by omega)]
    by_cases h2 : (Lx.textErr b).2 ≠ 0
    · rw [if_pos h2]
      have h2' : (((Lx.textErr b).2 : Int) != 0) = true := by rw [bne_iff_ne]; omega
      clear h2
      go_enter Tryd.func43, Tryd.ntmps43
      go_wp2_with (go_at_call 51; refine (refTextError_any _ _ (by assumption)).mono ?_; rintro e w1 ⟨rfl, rfl⟩)
      go_ret2
      exact ⟨none, 0, rfl, fun h => absurd rfl h, Below.refl _ _⟩
    · have h2 : (Lx.textErr b).2 = 0 := by omega
      rw [if_neg (by omega)]
      have hma : Lx.most a b ≤ a.size := Nat.min_le_left _ _
      have hmb : Lx.most a b ≤ b.size := Nat.min_le_right _ _
      have hbq : (a.toList == b.toList) = decide (a = b) := by
        rw [ByteArray.toList_eq, ByteArray.toList_eq]
        refine Bool.eq_iff_iff.2 ?_
        rw [beq_iff_eq, decide_eq_true_iff, Array.toList_inj]
        obtain ⟨x⟩ := a; obtain ⟨y⟩ := b
        simp
      by_cases hab : a = b
      · rw [if_pos hab]
        rw [decide_eq_true hab] at hbq
        go_enter Tryd.func43, Tryd.ntmps43
        go_wp2_with (go_at_call 51; refine (refTextError_any _ _ (by assumption)).mono ?_; rintro e w1 ⟨rfl, rfl⟩)
        go_ret2
        exact ⟨none, 0, rfl, fun h => absurd rfl h, Below.refl _ _⟩
      · rw [if_neg hab]
        rw [decide_eq_false hab] at hbq
        go_enter Tryd.func43, Tryd.ntmps43
        go_wp2_with (go_at_call 51; refine (refTextError_any _ _ (by assumption)).mono ?_; rintro e w1 ⟨rfl, rfl⟩)
        obtain ⟨H, hH⟩ : ∃ H, Lx.headLen a b = H := ⟨_, rfl⟩
        have hHm : H ≤ Lx.most a b := hH ▸ Lx.headLen_le a b
        have HH := Lib.hid hH
        have hmost : Lx.most a b = min a.size b.size := rfl
        go_loopw [10] (fun i wr => ∃ k : Nat, k ≤ Lx.most a b ∧ i = .int .i64 k ∧ Hid (Lx.cnt (Lx.headP a b) (Lx.most a b - k) k = H) ∧ Below w1.heap.size w1 wr) (fun i _ => Lx.most a b - (intOf i).toNat)
        case atStart => exact ⟨0, Nat.zero_le _, rfl, HH.out, Below.refl _ _⟩
        case round =>
          obtain ⟨k, hk, rfl, hn, hB⟩ := hrel
          by_cases hc : k < a.size ∧ k < b.size ∧ Lx.headP a b k = true
          · obtain ⟨hka, hkb, hp⟩ := hc
            have hkm : k < Lx.most a b := by omega
            have hbe : (((a[k].toNat : Nat) : Int) == ((b[k].toNat : Nat) : Int)) = Lx.headP a b k := by
              unfold Lx.headP
              rw [Lx.byteAt_eq a k hka, Lx.byteAt_eq b k hkb]
              refine Bool.eq_iff_iff.2 ?_
              rw [beq_iff_eq, beq_iff_eq, Int.ofNat_inj, UInt8.toNat_inj]
            have hst := (Lx.cnt_step hkm hp).symm.trans hn.out
            rw [hp] at hbe
            have HST := Lib.hid hst
            clear hst
            go_wp2
            go_region
            go_wp2
            go_roundw
            case rel => exact ⟨k + 1, by omega, by go_num, HST.out, hB.drew⟩
            case measure => simp [intOf]; omega
          · have hkH : Hid (k = H) := by
              by_cases hkm : k < Lx.most a b
              · have hp : Lx.headP a b k = false := by
                  cases hq : Lx.headP a b k
                  · rfl
                  · exact absurd ⟨by omega, by omega, hq⟩ hc
                exact (Lx.cnt_stop hp).symm.trans hn.out
              · exact (Lx.cnt_end (by omega)).symm.trans hn.out
            have h3 : (k < a.size ∧ k < b.size ∧ ∀ (x : k < a.size) (y : k < b.size), (((a[k].toNat : Nat) : Int) == ((b[k].toNat : Nat) : Int)) = false) ∨ (k < a.size ∧ ¬ k < b.size) ∨ ¬ k < a.size := by
              by_cases hka : k < a.size
              · by_cases hkb : k < b.size
                · refine .inl ⟨hka, hkb, fun _ _ => ?_⟩
                  have hp : Lx.headP a b k = false := by
                    cases hq : Lx.headP a b k
                    · rfl
                    · exact absurd ⟨hka, hkb, hq⟩ hc
                  rw [← hp]
                  unfold Lx.headP
                  rw [Lx.byteAt_eq a k hka, Lx.byteAt_eq b k hkb]
                  refine Bool.eq_iff_iff.2 ?_
                  rw [beq_iff_eq, beq_iff_eq, Int.ofNat_inj, UInt8.toNat_inj]
                · exact .inr (.inl ⟨hka, hkb⟩)
              · exact .inr (.inr hka)
            clear hc
            rcases h3 with ⟨hka, hkb, hbe'⟩ | ⟨hka, hkb⟩ | hka
            rotate_left
            rotate_right
            have hbe := hbe' hka hkb
            clear hbe'
            all_goals
              go_wp2
              go_region
              go_wp2
              obtain rfl : k = H := hkH.out
              have hB := hB.drew
              generalize wr.drew = W0 at *
              obtain ⟨T, hT⟩ : ∃ T, Lx.tailLen a b = T := ⟨_, rfl⟩
              have hTm : k + T ≤ Lx.most a b := by rw [← hT]; have := Lx.tailLen_le a b; rw [HH.out] at this; exact this
              have hT0 : Hid (Lx.cnt (Lx.tailP a b) (Lx.most a b - k - 0) 0 = T) := by rw [Hid, ← hT, Lx.tailLen, HH.out]; rfl
              have HTL := Lib.hid hT
              clear hT
              have hsz0 := hB.size
              go_loopw [11] (fun i wr => ∃ j : Nat, k + j ≤ Lx.most a b ∧ i = .int .i64 j ∧ Hid (Lx.cnt (Lx.tailP a b) (Lx.most a b - k - j) j = T) ∧ Below w1.heap.size w1 wr) (fun i _ => Lx.most a b - (intOf i).toNat)
              case atStart => exact ⟨0, by omega, rfl, hT0, hB⟩
              case round =>
                obtain ⟨j, hj, rfl, hn2, hB2⟩ := hrel
                have ia : j < Lx.most a b - k → a.size - 1 - j < a.size := fun _ => by omega
                have ib : j < Lx.most a b - k → b.size - 1 - j < b.size := fun _ => by omega
                have hxe : ∀ (x : a.size - 1 - j < a.size) (y : b.size - 1 - j < b.size), (((a[a.size - 1 - j].toNat : Nat) : Int) == ((b[b.size - 1 - j].toNat : Nat) : Int)) = Lx.tailP a b j := fun x y => by
                  unfold Lx.tailP
                  rw [Lx.byteAt_eq a _ x, Lx.byteAt_eq b _ y]
                  refine Bool.eq_iff_iff.2 ?_
                  rw [beq_iff_eq, beq_iff_eq, Int.ofNat_inj, UInt8.toNat_inj]
                by_cases hc2 : j < a.size - k ∧ j < b.size - k ∧ Lx.tailP a b j = true
                · obtain ⟨hja, hjb, hp⟩ := hc2
                  have hkm : j < Lx.most a b - k := by omega
                  have xa := ia hkm
                  have xb := ib hkm
                  have hbe2 := (hxe xa xb).trans hp
                  have HST := Lib.hid ((Lx.cnt_step hkm hp).symm.trans hn2.out)
                  have za : (a.size : Int) - 1 - j = ((a.size - 1 - j : Nat) : Int) := by omega
                  have zb : (b.size : Int) - 1 - j = ((b.size - 1 - j : Nat) : Int) := by omega
                  have ya : (j : Int) < (a.size : Int) - k := by omega
                  have yb : (j : Int) < (b.size : Int) - k := by omega
                  clear ia ib hxe
                  go_wp2
                  go_region
                  go_wp2
                  go_roundw
                  case rel => exact ⟨j + 1, by omega, by go_num, HST.out, hB2.drew⟩
                  case measure => simp [intOf]; omega
                · have hjT : Hid (j = T) := by
                    by_cases hkm : j < Lx.most a b - k
                    · have hp : Lx.tailP a b j = false := by
                        cases hq : Lx.tailP a b j
                        · rfl
                        · exact absurd ⟨by omega, by omega, hq⟩ hc2
                      exact (Lx.cnt_stop hp).symm.trans hn2.out
                    · exact (Lx.cnt_end (by omega)).symm.trans hn2.out
                  have h4 : ((j : Int) < (a.size : Int) - k ∧ (j : Int) < (b.size : Int) - k ∧ ∀ (x : a.size - 1 - j < a.size) (y : b.size - 1 - j < b.size), (((a[a.size - 1 - j].toNat : Nat) : Int) == ((b[b.size - 1 - j].toNat : Nat) : Int)) = false) ∨ ((j : Int) < (a.size : Int) - k ∧ ¬ (j : Int) < (b.size : Int) - k) ∨ ¬ (j : Int) < (a.size : Int) - k := by
                    by_cases hja : (j : Int) < (a.size : Int) - k
                    · by_cases hjb : (j : Int) < (b.size : Int) - k
                      · refine .inl ⟨hja, hjb, fun x y => ?_⟩
                        rw [hxe x y]
                        cases hq : Lx.tailP a b j
                        · rfl
                        · exact absurd ⟨by omega, by omega, hq⟩ hc2
                      · exact .inr (.inl ⟨hja, hjb⟩)
                    · exact .inr (.inr hja)
                  have za : (a.size : Int) - 1 - j = ((a.size - 1 - j : Nat) : Int) ∨ ¬ (j : Int) < (a.size : Int) - k := by omega
                  have zb : (b.size : Int) - 1 - j = ((b.size - 1 - j : Nat) : Int) ∨ ¬ (j : Int) < (b.size : Int) - k := by omega
                  have hjb2 : k + j ≤ b.size := by omega
                  have hja2 : k + j ≤ a.size := by omega
                  have sl1 : (k : Int) ≤ (b.size : Int) - j := by omega
                  have sl2 : 0 ≤ (b.size : Int) - j := by omega
                  have sl3 : (b.size : Int) - j ≤ b.size := by omega
                  have sl4 : ((b.size : Int) - j).toNat = b.size - j := by omega
                  clear hc2 hxe
                  rcases h4 with ⟨hja, hjb, hbe4⟩ | ⟨hja, hjb⟩ | hja
                  · have hxa : a.size - 1 - j < a.size := by omega
                    have hxb : b.size - 1 - j < b.size := by omega
                    have hbe5 := hbe4 hxa hxb
                    have za1 := za.resolve_right (fun h => h hja)
                    have zb1 := zb.resolve_right (fun h => h hjb)
                    have hd1 : decide ((j : Int) < (a.size : Int) - k) = true := decide_eq_true hja
                    have hd2 : decide ((j : Int) < (b.size : Int) - k) = true := decide_eq_true hjb
                    clear hbe4 za zb ia ib
                    go_wp2
                    go_region
                    go_wp2
                    first | (go_ret2; exact diff_end a b wr _ k j _ HH.out (HTL.out.trans hjT.out.symm) hB2 sl4 _ (by rw [← sl4]; rfl) rfl) | (exfalso; omega)
                  · have hd1 : decide ((j : Int) < (a.size : Int) - k) = true := decide_eq_true hja
                    have hd2 : decide ((j : Int) < (b.size : Int) - k) = false := decide_eq_false hjb
                    have hd3 : (b.size : Int) - k ≤ j := by omega
                    clear za zb ia ib
                    go_wp2
                    go_region
                    go_wp2
                    first | (go_ret2; exact diff_end a b wr _ k j _ HH.out (HTL.out.trans hjT.out.symm) hB2 sl4 _ (by rw [← sl4]; rfl) rfl) | (exfalso; omega)
                  · have hd1 : decide ((j : Int) < (a.size : Int) - k) = false := decide_eq_false hja
                    have hd3 : (a.size : Int) - k ≤ j := by omega
                    clear za zb ia ib
                    go_wp2
                    go_region
                    go_wp2
                    first | (go_ret2; exact diff_end a b wr _ k j _ HH.out (HTL.out.trans hjT.out.symm) hB2 sl4 _ (by rw [← sl4]; rfl) rfl) | (exfalso; omega)
end Go.Proofs.YtchkngabppmbkaaDoor
