/-
  WALKS: SameSplices; the reference's error of a text.
-/
import Derived.Test.YtchkngabppmbkaaDoorLexM
import Derived.Test.YtchkngabppmbkaaDoorLexN
namespace Go.Proofs.YtchkngabppmbkaaDoor
open Go.RowKit

def splEq (k k' p p' : Int) (a b : ByteArray) : Bool := decide (k = k' ∧ p = p' ∧ a = b)
theorem spl_equal (w : World) (k k' p p' : Int) (a b : ByteArray) : (Op.equalIn 10000 56 (.agg #[.int .i64 k, .int .i64 p, .string a]) (.agg #[.int .i64 k', .int .i64 p', .string b])).run Tryd.prog w = .ok (splEq k k' p p' a b) w := by
  rw [run_equalIn_struct w 9999 56 _ _ (by kernel_rfl) (by kernel_rfl)]
  simp only [Program.fieldsOf, Tryd.underlying56]
  have hs : (a.toList == b.toList) = decide (a = b) := by
    rw [ByteArray.toList_eq, ByteArray.toList_eq]
    refine Bool.eq_iff_iff.2 ?_
    rw [beq_iff_eq, decide_eq_true_iff, Array.toList_inj]
    obtain ⟨x⟩ := a; obtain ⟨y⟩ := b
    simp
  go_simp
  unfold splEq
  by_cases h1 : k = k'
  · by_cases h2 : p = p'
    · by_cases h3 : a = b <;> simp [h1, h2, h3]
    · simp [h1, h2]
  · simp [h1]
theorem run_eql_spl (w : World) (k k' p p' : Int) (a b : ByteArray) : (binOp .eql 56 (.agg #[.int .i64 k, .int .i64 p, .string a]) (.agg #[.int .i64 k', .int .i64 p', .string b])).run Tryd.prog w = .ok (.bool (splEq k k' p p' a b)) w := by
  rw [run_eql_struct, spl_equal]; rfl
theorem run_neq_spl (w : World) (k k' p p' : Int) (a b : ByteArray) : (binOp .neq 56 (.agg #[.int .i64 k, .int .i64 p, .string a]) (.agg #[.int .i64 k', .int .i64 p', .string b])).run Tryd.prog w = .ok (.bool (!splEq k k' p p' a b)) w := by
  rw [run_neq_struct, spl_equal]; rfl

set_option maxRecDepth 100000 in
set_option maxHeartbeats 4000000 in
theorem sameSplices_any (l m : List Lx.Spl) (A C : Option Addr) (c d : Nat) (w : World) (hl : l.length ≤ 1152921504606846976) (hm : m.length ≤ 1152921504606846976) (hA : Spls w w.heap.size A l) (hC : Spls w w.heap.size C m) :
    Calls Tryd.prog 41 #[.slice A l.length c, .slice C m.length d] w fun e w' => e = .returned (.bool (decide (l = m))) ∧ Below w.heap.size w w' := by
  have HA := Lib.hid hA
  have HC := Lib.hid hC
  have qn := run_neq_spl
  have qg : ∀ (x y : Operand) (xs ys : Array Value) (w : World), (eqGuard .neq 56 x y (.agg xs) (.agg ys)).run Tryd.prog w = .ok () w := fun x y xs ys w => run_eqGuard_agg w _ _ x y xs ys (by kernel_rfl)
  clear hA hC
  by_cases hne : l.length = m.length
  · have hn2 : ((l.length : Int) != (m.length : Int)) = false := by rw [bne_eq_false_iff_eq]; omega
    obtain ⟨D, hD⟩ : ∃ D, decide (l = m) = D := ⟨_, rfl⟩
    rw [hD]
    have HD := Lib.hid hD
    clear hD
    go_enter Tryd.func41, Tryd.ntmps41
    go_wp2
    go_loopw [5] (fun i wr => ∃ (k : Nat), k ≤ l.length ∧ i = .int .i64 k ∧ Hid (l.take k = m.take k) ∧ Below w.heap.size w wr) (fun i _ => l.length - (intOf i).toNat)
    case atStart => exact ⟨0, Nat.zero_le _, rfl, rfl, Below.refl _ _⟩
    case round =>
      obtain ⟨k, hk, rfl, htk, hB⟩ := hrel
      have hsz := hB.size
      by_cases hlt : k < l.length
      · have hne1 : l ≠ [] := by intro e; subst e; simp at hlt
        have hne2 : m ≠ [] := by intro e; rw [e, List.length_nil] at hne; omega
        obtain ⟨b, off, rfl, hb, hc⟩ := HA.out.below hB hne1
        obtain ⟨b', off', rfl, hb', hc'⟩ := HC.out.below hB hne2
        obtain ⟨x, hx⟩ : ∃ x, l[k]? = some x := ⟨_, List.getElem?_eq_getElem hlt⟩
        obtain ⟨y, hy⟩ : ∃ y, m[k]? = some y := ⟨_, List.getElem?_eq_getElem (by omega)⟩
        obtain ⟨x1, x2, x3⟩ := hc k x hx
        obtain ⟨y1, y2, y3⟩ := hc' k y hy
        have hlm : k < m.length := by omega
        have T1 : l.take (k + 1) = l.take k ++ [x] := by rw [List.take_add_one, hx]; rfl
        have T2 : m.take (k + 1) = m.take k ++ [y] := by rw [List.take_add_one, hy]; rfl
        have HX := Lib.hid hx; have HY := Lib.hid hy; have H1 := Lib.hid T1; have H2 := Lib.hid T2
        clear hc hc' hx hy T1 T2 hne1 hne2
        cases hq : splEq x.lo y.lo x.hi y.hi x.text y.text
        · go_wp2
          go_region
          go_wp2
          go_ret
          refine ⟨?_, hB.drew⟩
          have : l ≠ m := by
            rintro rfl
            have e : x = y := Option.some.inj (HX.out.symm.trans HY.out)
            subst e
            simp [splEq] at hq
          rw [← HD.out, decide_eq_false this]; rfl
        · go_wp2
          go_region
          go_wp2
          go_roundw
          case rel =>
            refine ⟨k + 1, by omega, by go_num, ?_, hB.drew⟩
            have e : x = y := by
              simp only [splEq, decide_eq_true_eq] at hq
              obtain ⟨h1, h2, h3⟩ := hq
              cases x; cases y; simp_all
            rw [Hid, H1.out, H2.out, htk.out, e]
          case measure => simp [intOf]; omega
      · obtain rfl : k = l.length := by omega
        have : l = m := by
          have := htk.out
          rwa [List.take_length, hne, List.take_length] at this
        rw [decide_eq_true this] at HD
        go_wp2
        go_ret
        exact ⟨by rw [← HD.out]; rfl, hB⟩
  · have hd : decide (l = m) = false := by rw [decide_eq_false_iff_not]; rintro rfl; exact hne rfl
    have hn2 : ((l.length : Int) != (m.length : Int)) = true := by rw [bne_iff_ne]; omega
    rw [hd]
    go_enter Tryd.func41, Tryd.ntmps41
    go_wp2
    go_ret
    exact ⟨rfl, Below.refl _ _⟩


theorem isText_byte (c : UInt8) : Lx.isText c = (c.toNat == 10 || (decide (32 ≤ c.toNat) && decide (c.toNat ≤ 126))) := by
  have h : ∀ n : Fin 256, Lx.isText (UInt8.ofNat n.val) = (n.val == 10 || (decide (32 ≤ n.val) && decide (n.val ≤ 126))) := by decide +kernel
  have := h ⟨c.toNat, c.toNat_lt⟩
  simpa using this

set_option maxRecDepth 100000 in
set_option maxHeartbeats 1000000 in
theorem isByte_any (c : UInt8) (w : World) : Calls Tryd.prog 84 #[.int .u8 (c.toNat : Int)] w fun e w' => e = .returned (.bool (Lx.isText c)) ∧ w' = w := by
  rw [isText_byte]
  have hlt := c.toNat_lt
  go_enter Tryd.func84, Tryd.ntmps84
  go_wp2
  all_goals go_ret
  all_goals exact ⟨ret_bool (Bool.eq_iff_iff.2 (by simp; omega)), rfl⟩

set_option maxRecDepth 100000 in
set_option maxHeartbeats 1000000 in
theorem refTextError_any (s : ByteArray) (w : World) (hs : s.size ≤ 9223372036854775807) :
    Calls Tryd.prog 51 #[.string s] w fun e w' =>
      e = .returned (.tuple #[.int .i64 ((Lx.textErr s).1 : Int), .int .i64 ((Lx.textErr s).2 : Int)]) ∧ w' = w := by
  have HI := Lib.hid isByte_any
  obtain ⟨T, hT⟩ : ∃ T, Lx.textErr s = T := ⟨_, rfl⟩
  rw [hT]
  unfold Lx.textErr at hT
  obtain ⟨E, hE⟩ : ∃ E, Lx.runEnd Lx.isText s 0 = E := ⟨_, rfl⟩
  rw [hE] at hT
  have HE := Lib.hid hE; clear hE
  have HT := Lib.hid hT; clear hT
  go_enter Tryd.func51, Tryd.ntmps51
  by_cases h1 : 2500 < s.size
  · go_wp2
    go_ret2
    exact ⟨ret_two (by rw [← HT.out, if_pos h1]; rfl) (by rw [← HT.out, if_pos h1]; rfl), rfl⟩
  · go_wp2
    go_loop [4] (fun i => ∃ k : Nat, k ≤ s.size ∧ i = .int .i64 k ∧ Hid (Lx.runEnd Lx.isText s k = E)) (fun i => s.size - (intOf i).toNat)
    case atStart => exact ⟨0, Nat.zero_le _, rfl, HE.out⟩
    case round =>
      obtain ⟨k, hk, rfl, hn⟩ := hrel
      by_cases hlt : k < s.size
      · have HS := Lib.hid (@Lx.runEnd_step Lx.isText s k hlt)
        have HP := Lib.hid (@Lx.runEnd_stop Lx.isText s k hlt)
        have HC := Lib.hid (HI.out s[k])
        cases hpk : Lx.isText s[k]
        · rw [hpk] at HC
          have HK := Lib.hid hpk; clear hpk
          obtain rfl : k = E := (HP.out HK.out).symm.trans hn.out
          go_wp2_with (go_at_call 84; refine (HC.out _).mono ?_; rintro e w' ⟨rfl, rfl⟩)
          go_ret2
          exact ⟨ret_two (by rw [← HT.out, if_neg h1, if_pos hlt]) (by rw [← HT.out, if_neg h1, if_pos hlt]; rfl), rfl⟩
        · rw [hpk] at HC
          have HK := Lib.hid hpk; clear hpk
          go_wp2_with (go_at_call 84; refine (HC.out _).mono ?_; rintro e w' ⟨rfl, rfl⟩)
          go_round
          case rel => exact ⟨k + 1, by omega, by go_num, by rw [Hid, ← HS.out HK.out]; exact hn.out⟩
          case measure => simp [intOf]; omega
      · obtain rfl : k = s.size := by omega
        have hE2 : ¬ E < s.size := by
          have := hn.out
          rw [Lx.runEnd_end (Nat.le_refl _)] at this
          omega
        go_wp2
        go_ret2
        exact ⟨ret_two (by rw [← HT.out, if_neg h1, if_neg hE2]; rfl) (by rw [← HT.out, if_neg h1, if_neg hE2]; rfl), rfl⟩
end Go.Proofs.YtchkngabppmbkaaDoor
