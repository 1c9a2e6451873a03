/-
  What is proved: when a text is spliced all tokens stay that end before the byte in front of the splice, and all that begin behind the first line feed at its end, or behind it (P1.12), at any text and any splice whose texts have at most 3000 bytes; at longer ones the examples hold. Conditions: the listed package-level variables begin as the program's text lays them (the card ties them).
-/
import Derived.Test.YtchkngabppmbkaaDoorLexZN
import Derived.Test.YtchkngabppmbkaaDoorLexQ
import Derived.Test.YtchkngabppmbkaaDoorLexWB
import Derived.BigQuiet
namespace Go.Proofs.YtchkngabppmbkaaDoor
open Go.ChangeShapes Go.WideShapes Go.ChangeAt Go.RowKit

theorem beforeOf_cons (lo : Int) (y : Lx.Tk) (l : List Lx.Tk) : Lx.beforeOf lo (y :: l) = (if y.pos + y.text.size < lo then 1 else 0) + Lx.beforeOf lo l := by
  unfold Lx.beforeOf
  rw [List.filter_cons]
  by_cases h : y.pos + y.text.size < lo
  · rw [if_pos (by simpa using h), if_pos h, List.length_cons]; omega
  · rw [if_neg (by simpa using h), if_neg h]; omega
theorem behindOf_cons (ln : Int) (y : Lx.Tk) (l : List Lx.Tk) : Lx.behindOf ln (y :: l) = (if ln < y.pos then 1 else 0) + Lx.behindOf ln l := by
  unfold Lx.behindOf
  rw [List.filter_cons]
  by_cases h : ln < y.pos
  · rw [if_pos (by simpa using h), if_pos h, List.length_cons]; omega
  · rw [if_neg (by simpa using h), if_neg h]; omega
theorem toksOf_size {s : ByteArray} : ∀ x ∈ Lx.toksOf s, 0 ≤ x.pos ∧ x.pos ≤ 2500 ∧ x.text.size ≤ 2500 := fun x hx => by
  by_cases h : (Lx.tokensOf s).2.2 = 0
  · have h1 := (Lx.tokensOf_ok h).1
    rw [Lx.toksOf_ok h] at hx
    obtain ⟨z, hz, rfl⟩ := List.mem_map.1 hx
    have := Lx.piecesAt_ge z (List.mem_filter.1 hz).1
    show 0 ≤ (z.pos : Int) ∧ (z.pos : Int) ≤ 2500 ∧ z.text.size ≤ 2500
    omega
  · unfold Lx.toksOf at hx
    rw [Lx.tokensOf_bad h] at hx; cases hx
theorem keptOf_ok {s : ByteArray} {x : Lx.Spl} (h : (Lx.keptOf s x).2.2 = 0) : (Lx.applyOf s [x]).2 = 0 ∧ (Lx.tokensOf s).2.2 = 0 ∧ (Lx.tokensOf (Lx.applyOf s [x]).1).2.2 = 0 ∧
    Lx.keptOf s x = (Lx.headTks (Lx.toksOf s) (Lx.toksOf (Lx.applyOf s [x]).1), Lx.tailTks (((Lx.applyOf s [x]).1.size : Int) - s.size) (Lx.toksOf s) (Lx.toksOf (Lx.applyOf s [x]).1), 0) := by
  unfold Lx.keptOf at h ⊢
  split at h
  · rename_i h1; exact absurd h h1
  · rename_i h1
    rw [if_neg h1]
    split at h
    · rename_i h2; exact absurd h h2
    · rename_i h2
      rw [if_neg h2]
      split at h
      · rename_i h3; exact absurd h h3
      · rename_i h3
        rw [if_neg h3]
        exact ⟨by omega, by omega, by omega, rfl⟩

set_option maxRecDepth 100000 in
set_option maxHeartbeats 4000000 in
theorem far_main (s : ByteArray) (x : Lx.Spl) (w : World) (hs : s.size ≤ 3000) (hx : x.text.size ≤ 3000) (hG : GV w) (hk : (Lx.keptOf s x).2.2 = 0) :
    Calls Tryd.prog 14 #[.string s, .agg #[.int .i64 x.lo, .int .i64 x.hi, .string x.text]] w fun e w' => e = .returned (.bool true) ∧ Below w.heap.size w w' := by
  have HW := Lib.hid (fun W (hB : Below w.heap.size w W) => awake_any W (hG.below hB))
  have hB0 : Below w.heap.size w (w.alloc (.cells #[.int .i64 x.lo, .int .i64 x.hi, .string x.text] 56)) := (Below.refl _ _).alloc (Nat.le_refl _) _
  have hbx : w.heap.size < (w.alloc (.cells #[.int .i64 x.lo, .int .i64 x.hi, .string x.text] 56)).heap.size := by simp
  have d1 : decide ((s.size : Int) > 3000) = false := decide_eq_false (by omega)
  have d2 : decide ((x.text.size : Int) > 3000) = false := decide_eq_false (by omega)
  have HK := Lib.hid (kept_any s x (w.alloc (.cells #[.int .i64 x.lo, .int .i64 x.hi, .string x.text] 56)) (by omega) (by omega) (hG.below hB0))
  have HA := Lib.hid (fun A c W hS => apply_any s [x] A c W (by omega) (by simp) (fun y hy => by rw [List.mem_singleton.1 hy]; omega) hS)
  simp only [List.length_singleton] at HA
  obtain ⟨k1, k2, k3, k4⟩ := keptOf_ok hk
  obtain ⟨f1, f2⟩ := Lx.far k1 k2 k3
  obtain ⟨hs0, hlo, hle, hhi, _⟩ := Lx.applyOne k1
  obtain ⟨hi, ehi⟩ : ∃ hi : Nat, x.hi = hi := ⟨x.hi.toNat, by omega⟩
  rw [ehi] at f2
  simp only [Int.toNat_natCast] at f2
  rw [k4] at HK
  have hts := (Lx.tokensOf_ok k2).1
  have htP := (Lx.tokensOf_ok k3).1
  have HT1 := Lib.hid (fun W (hB : Below w.heap.size w W) => tokens_any s (by omega) W (hG.below hB))
  have hle1 := Lx.tailTks_le (((Lx.applyOf s [x]).1.size : Int) - s.size) (Lx.toksOf s) (Lx.toksOf (Lx.applyOf s [x]).1)
  have HZ := Lib.hid (toksOf_size (s := s))
  generalize Lx.applyOf s [x] = P at *
  have hPz : P.1.size ≤ 281474976710656 := by omega
  have HT2 := Lib.hid (fun W (hB : Below w.heap.size w W) => tokens_any P.1 hPz W (hG.below hB))
  have hl1 : (Lx.toksOf s).length = (Lx.tokensOf s).1.length := by rw [Lx.toksOf, List.length_map]
  have hl2 : (Lx.toksOf P.1).length = (Lx.tokensOf P.1).1.length := by rw [Lx.toksOf, List.length_map]
  have hn1 := tokensOf_len' s
  have hn2 := tokensOf_len' P.1
  have HTK1 := Lib.hid (show ∀ (w : World) (base : Nat) (v : Value), w.ownsRow base 63 3 v (Lx.tokensOf s).1.length (toksCells (Lx.tokensOf s).1) → ∃ ao cap, v = .slice ao (Lx.tokensOf s).1.length cap ∧ Tks w w.heap.size ao (Lx.toksOf s) from fun _ _ _ h => own_tks h)
  have HTK2 := Lib.hid (show ∀ (w : World) (base : Nat) (v : Value), w.ownsRow base 63 3 v (Lx.tokensOf P.1).1.length (toksCells (Lx.tokensOf P.1).1) → ∃ ao cap, v = .slice ao (Lx.tokensOf P.1).1.length cap ∧ Tks w w.heap.size ao (Lx.toksOf P.1) from fun _ _ _ h => own_tks h)
  rw [k2] at HT1
  rw [k3] at HT2
  unfold Lx.tkMost at hle1
  generalize Lx.headTks (Lx.toksOf s) (Lx.toksOf P.1) = H at *
  generalize Lx.tailTks ((P.1.size : Int) - s.size) (Lx.toksOf s) (Lx.toksOf P.1) = T at *
  generalize Lx.toksOf s = L at *
  generalize Lx.toksOf P.1 = L2 at *
  rw [← hl1] at HT1 HTK1 hn1
  rw [← hl2] at HT2 HTK2 hn2
  obtain ⟨m, hm⟩ : ∃ m, Lx.runEnd Lx.notNL s hi = m := ⟨_, rfl⟩
  have hms : m ≤ s.size := hm ▸ Lx.runEnd_le (by omega)
  rw [hm] at f2
  have HM := Lib.hid hm; clear hm
  obtain ⟨BT, hBT⟩ : ∃ BT, Lx.beforeOf x.lo L = BT := ⟨_, rfl⟩
  obtain ⟨HT, hHT⟩ : ∃ HT, Lx.behindOf (m : Int) L = HT := ⟨_, rfl⟩
  rw [hBT] at f1
  rw [hHT] at f2
  have HBT := Lib.hid hBT; have HHT := Lib.hid hHT
  have hP0 := k1
  have HT1' := Lib.hid (show ∀ W, Below w.heap.size w W → Calls Tryd.prog 19 #[.string s] W fun e w' => ∃ ao cap at', e = .returned (.tuple #[.slice ao L.length cap, .int .i64 at', .int .i64 0]) ∧ Tks w' w'.heap.size ao L ∧ Below W.heap.size W w' from fun W hB => (HT1.out W hB).mono (by
    rintro e w' ⟨v, he, hown, hB⟩
    rw [hl1] at hown
    rw [hl1] at HTK1
    obtain ⟨ao, cap, rfl, ht⟩ := HTK1.out _ _ _ hown
    exact ⟨ao, cap, _, by rw [hl1]; exact he, ht, hB⟩))
  have HT2' := Lib.hid (show ∀ W, Below w.heap.size w W → Calls Tryd.prog 19 #[.string P.1] W fun e w' => ∃ ao cap at', e = .returned (.tuple #[.slice ao L2.length cap, .int .i64 at', .int .i64 0]) ∧ Tks w' w'.heap.size ao L2 ∧ Below W.heap.size W w' from fun W hB => (HT2.out W hB).mono (by
    rintro e w' ⟨v, he, hown, hB⟩
    rw [hl2] at hown
    rw [hl2] at HTK2
    obtain ⟨ao, cap, rfl, ht⟩ := HTK2.out _ _ _ hown
    exact ⟨ao, cap, _, by rw [hl2]; exact he, ht, hB⟩))
  rw [hP0] at HA
  have HE := Lib.hid ehi
  have hhi' : hi ≤ s.size := by omega
  have hhi0 : 0 ≤ x.hi := by omega
  clear ehi hle HT1 HT2 HTK1 HTK2 hBT hHT k1 k2 k3 k4 hk hG hl1 hl2 hP0
  go_enter Tryd.func14, Tryd.ntmps14
  go_wp2_with (first
    | (go_at_call 44; refine HK.out.mono ?_; rintro e w1 ⟨rfl, hB1⟩; have x0 := (hB1.cell (p := ⟨w.heap.size, 0, none⟩) hbx); have x1 := (hB1.cell (p := ⟨w.heap.size, 1, none⟩) hbx); have x2 := (hB1.cell (p := ⟨w.heap.size, 2, none⟩) hbx); have hBw1 := hB0.trans (hB1.mono hB0.size); have hbx1 : w.heap.size < w1.heap.size := Nat.lt_of_lt_of_le hbx hB1.size)
    | (go_at_call 35; refine (HA.out _ _ _ (spls_one w1 x)).mono ?_; rintro e w2 ⟨rfl, hB2⟩; have hBs2 : Below w1.heap.size w1 w2 := ((Below.refl _ w1).alloc (Nat.le_refl _) _).trans (hB2.mono (by simp)); have hBw2 := hBw1.trans (hBs2.mono hBw1.size))
    | (go_at_call 19; refine (HT2'.out w3 hBw3).mono ?_; rintro e w4 ⟨ao2, cap2, at2, rfl, htk2, hB4⟩; have hBw4 := hBw3.trans (hB4.mono hBw3.size); have hBs4 := hBs3.trans (hB4.mono hBs3.size); have htk1' := tksLater htk1 hB4; have x0 := (hBs4.cell (p := ⟨w.heap.size, 0, none⟩) hbx1).trans x0; have x1 := (hBs4.cell (p := ⟨w.heap.size, 1, none⟩) hbx1).trans x1; have x2 := (hBs4.cell (p := ⟨w.heap.size, 2, none⟩) hbx1).trans x2)
    | (go_at_call 19; refine (HT1'.out w2 hBw2).mono ?_; rintro e w3 ⟨ao1, cap1, at1, rfl, htk1, hB3⟩; have hBw3 := hBw2.trans (hB3.mono hBw2.size); have hBs3 := hBs2.trans (hB3.mono hBs2.size)))
  have hB14 := hBw4
  have HK1 := Lib.hid htk1'
  have hbx4 : w.heap.size < w4.heap.size := Nat.lt_of_lt_of_le hbx1 hBs4.size
  have c0 : w4.cell? ⟨w.heap.size, 0, none⟩ = some (.int .i64 x.lo) := x0.trans (cells_new_at w _ _ 0 _ rfl)
  clear x0 x1 x2 htk1 htk1' htk2 hB1 hB2 hB3 hB4 HK HA HT1' HT2' hB0 hbx hBs2 hBs3 hBs4 hBw1 hBw2 hBw3
  have hsz4 := hBw4.size
  go_loopw [15] (fun i wr => ∃ k : Nat, k ≤ s.size ∧ i = .int .i64 k ∧ Hid (Lx.runEnd Lx.notNL s k = m) ∧ Below w4.heap.size w4 wr) (fun i _ => s.size - (intOf i).toNat)
  case atStart => exact ⟨hi, hhi', by rw [HE.out], HM.out, Below.refl _ _⟩
  case round =>
    obtain ⟨k, hk, rfl, hr, hB⟩ := hrel
    by_cases hc : k < s.size ∧ Lx.byteAt s k ≠ 10
    · obtain ⟨hlt, hne⟩ := hc
      have hbe : (((s[k].toNat : Nat) : Int) != 10) = true := by
        rw [bne_iff_ne]
        intro e
        rw [Lx.byteAt_eq s k hlt] at hne
        exact hne (UInt8.toNat_inj.1 (by have h10 : (10 : UInt8).toNat = 10 := rfl; rw [h10]; omega))
      have hnl : Lx.notNL s[k] = true := by
        rw [Lx.byteAt_eq s k hlt] at hne
        simpa [Lx.notNL] using hne
      have HST := Lib.hid ((Lx.runEnd_step hlt hnl).symm.trans hr.out)
      have q1 : decide ((k : Int) < (s.size : Int)) = true := decide_eq_true (by omega)
      clear hne hnl hr
      go_wp2
      go_roundw
      case rel => exact ⟨k + 1, by omega, by go_num, HST.out, hB⟩
      case measure => simp [intOf]; omega
    · have hkm : Hid (k = m) := by
        by_cases hlt : k < s.size
        · have hnl : Lx.notNL s[k] = false := by
            cases hq : Lx.notNL s[k]
            · rfl
            · exfalso
              refine hc ⟨hlt, fun e => ?_⟩
              rw [Lx.byteAt_eq s k hlt] at e
              rw [e] at hq
              exact absurd hq (by decide)
          exact (Lx.runEnd_stop hlt hnl).symm.trans hr.out
        · exact (Lx.runEnd_end (by omega)).symm.trans hr.out
      have h3 : (k < s.size ∧ ∀ h : k < s.size, (((s[k].toNat : Nat) : Int) != 10) = false) ∨ ¬ k < s.size := by
        by_cases hlt : k < s.size
        · refine .inl ⟨hlt, fun h => ?_⟩
          have he : Lx.byteAt s k = 10 := by
            by_cases e : Lx.byteAt s k = 10
            · exact e
            · exact absurd ⟨hlt, e⟩ hc
          rw [Lx.byteAt_eq s k hlt] at he
          rw [he]; rfl
        · exact .inr hlt
      clear hc hr
      rcases h3 with ⟨hlt, hbe'⟩ | hlt
      · have hbe := hbe' hlt
        have q1 : decide ((k : Int) < (s.size : Int)) = true := decide_eq_true (by omega)
        clear hbe'
        go_wp2
        obtain rfl : k = m := hkm.out
        generalize wr = w5 at *
        have hs5 := hB.size
        have hbt := HBT.out; have hht := HHT.out
        have hbx5 : w.heap.size < w5.heap.size := Nat.lt_of_lt_of_le hbx4 hs5
        have HB5 := Lib.hid (Nat.add_zero 0)
        go_loopw [16, 17, 18] (fun a b i wr => ∃ j nb nh : Nat, j ≤ L.length ∧ i = .int .i64 j ∧ a = .int .i64 nb ∧ b = .int .i64 nh ∧ nb ≤ j ∧ nh ≤ j ∧ Hid (nb + Lx.beforeOf x.lo (L.drop j) = BT) ∧ Hid (nh + Lx.behindOf (k : Int) (L.drop j) = HT) ∧ Below w4.heap.size w4 wr) (fun _ _ i _ => L.length - (intOf i).toNat)
        case atStart => exact ⟨0, 0, 0, Nat.zero_le _, rfl, rfl, rfl, Nat.le_refl _, Nat.le_refl _, by rw [Hid, Nat.zero_add]; exact hbt, by rw [Hid, Nat.zero_add]; exact hht, hB⟩
        case round =>
          obtain ⟨j, nb, nh, hj, rfl, rfl, rfl, hnb, hnh, hcb, hch, hB2⟩ := hrel
          clear hbt hht
          have hsz2 := hB2.size
          by_cases hlt2 : j < L.length
          · obtain ⟨bb, ob, hAe, hba, hca⟩ := HK1.out.below hB2 (tks_ne hlt2)
            cases hAe
            obtain ⟨y, hy⟩ : ∃ y, L[j]? = some y := ⟨_, List.getElem?_eq_getElem hlt2⟩
            obtain ⟨y1, y2, y3⟩ := hca j y hy
            obtain ⟨z0, z1, z2⟩ := HZ.out y (List.mem_of_getElem? hy)
            have hd := Lx.drop_of_get hy
            have hcb' := hcb.out; have hch' := hch.out
            rw [hd, beforeOf_cons] at hcb'
            rw [hd, behindOf_cons] at hch'
            have c1 := (hB2.cell (p := ⟨w.heap.size, 0, none⟩) hbx4).trans c0
            have HC1 := Lib.hid hcb'; have HC2 := Lib.hid hch'
            clear hcb hch hcb' hch' hd hy hca
            have hw1 : IntKind.i64.wrap (y.pos + (y.text.size : Int)) = y.pos + (y.text.size : Int) := IntWalk.i64_in _ (by omega)
            by_cases p1 : y.pos + (y.text.size : Int) < x.lo
            · by_cases p2 : (k : Int) < y.pos
              · have q3 := HC1.out; have q4 := HC2.out
                rw [if_pos p1] at q3; rw [if_pos p2] at q4
                have Q3 := Lib.hid q3; have Q4 := Lib.hid q4
                clear q3 q4 HC1 HC2
                go_wp2
                go_quiet (fail)
                go_wp2
                go_roundw
                case rel => exact ⟨j + 1, nb + 1, nh + 1, by omega, by go_num, by go_num, by go_num, by omega, by omega, by rw [Hid]; have := Q3.out; omega, by rw [Hid]; have := Q4.out; omega, below_drewN hB2 _⟩
                case measure => simp [intOf]; omega
              · have q3 := HC1.out; have q4 := HC2.out
                rw [if_pos p1] at q3; rw [if_neg p2] at q4
                have Q3 := Lib.hid q3; have Q4 := Lib.hid q4
                clear q3 q4 HC1 HC2
                go_wp2
                go_quiet (fail)
                go_wp2
                go_roundw
                case rel => exact ⟨j + 1, nb + 1, nh, by omega, by go_num, by go_num, by go_num, by omega, by omega, by rw [Hid]; have := Q3.out; omega, by rw [Hid]; have := Q4.out; omega, below_drewN hB2 _⟩
                case measure => simp [intOf]; omega
            · by_cases p2 : (k : Int) < y.pos
              · have q3 := HC1.out; have q4 := HC2.out
                rw [if_neg p1] at q3; rw [if_pos p2] at q4
                have Q3 := Lib.hid q3; have Q4 := Lib.hid q4
                clear q3 q4 HC1 HC2
                go_wp2
                go_quiet (fail)
                go_wp2
                go_roundw
                case rel => exact ⟨j + 1, nb, nh + 1, by omega, by go_num, by go_num, by go_num, by omega, by omega, by rw [Hid]; have := Q3.out; omega, by rw [Hid]; have := Q4.out; omega, below_drewN hB2 _⟩
                case measure => simp [intOf]; omega
              · have q3 := HC1.out; have q4 := HC2.out
                rw [if_neg p1] at q3; rw [if_neg p2] at q4
                have Q3 := Lib.hid q3; have Q4 := Lib.hid q4
                clear q3 q4 HC1 HC2
                go_wp2
                go_quiet (fail)
                go_wp2
                go_roundw
                case rel => exact ⟨j + 1, nb, nh, by omega, by go_num, by go_num, by go_num, by omega, by omega, by rw [Hid]; have := Q3.out; omega, by rw [Hid]; have := Q4.out; omega, below_drewN hB2 _⟩
                case measure => simp [intOf]; omega
          · obtain rfl : j = L.length := by omega
            have e1 : nb = BT := by have := hcb.out; rw [List.drop_length] at this; simpa [Lx.beforeOf] using this
            have e2 : nh = HT := by have := hch.out; rw [List.drop_length] at this; simpa [Lx.behindOf] using this
            subst e1 e2
            clear hcb hch
            have hBw := hBw4.trans (hB2.mono hsz4)
            have r1 : decide ((nb : Int) ≤ (H : Int)) = true := decide_eq_true (by omega)
            have r2 : min (min (nh : Int) ((L.length : Int) - H)) ((L2.length : Int) - H) ≤ (T : Int) := by omega
            have r2' := decide_eq_true r2
            have r3 : decide ((H : Int) + (T : Int) ≤ (L.length : Int)) = true := decide_eq_true (by omega)
            have r4 : decide ((H : Int) + (T : Int) ≤ (L2.length : Int)) = true := decide_eq_true (by omega)
            go_wp2_with (go_at_call 18; refine (HW.out _ hBw).mono ?_; rintro e w9 ⟨rfl, hB9⟩)
            all_goals
              go_ret
              exact ⟨rfl, hBw.trans (hB9.mono hBw.size)⟩
      · have q1 : decide ((k : Int) < (s.size : Int)) = false := decide_eq_false (by omega)
        go_wp2
        obtain rfl : k = m := hkm.out
        generalize wr = w5 at *
        have hs5 := hB.size
        have hbt := HBT.out; have hht := HHT.out
        have hbx5 : w.heap.size < w5.heap.size := Nat.lt_of_lt_of_le hbx4 hs5
        have HB5 := Lib.hid (Nat.add_zero 0)
        go_loopw [16, 17, 18] (fun a b i wr => ∃ j nb nh : Nat, j ≤ L.length ∧ i = .int .i64 j ∧ a = .int .i64 nb ∧ b = .int .i64 nh ∧ nb ≤ j ∧ nh ≤ j ∧ Hid (nb + Lx.beforeOf x.lo (L.drop j) = BT) ∧ Hid (nh + Lx.behindOf (k : Int) (L.drop j) = HT) ∧ Below w4.heap.size w4 wr) (fun _ _ i _ => L.length - (intOf i).toNat)
        case atStart => exact ⟨0, 0, 0, Nat.zero_le _, rfl, rfl, rfl, Nat.le_refl _, Nat.le_refl _, by rw [Hid, Nat.zero_add]; exact hbt, by rw [Hid, Nat.zero_add]; exact hht, hB⟩
        case round =>
          obtain ⟨j, nb, nh, hj, rfl, rfl, rfl, hnb, hnh, hcb, hch, hB2⟩ := hrel
          clear hbt hht
          have hsz2 := hB2.size
          by_cases hlt2 : j < L.length
          · obtain ⟨bb, ob, hAe, hba, hca⟩ := HK1.out.below hB2 (tks_ne hlt2)
            cases hAe
            obtain ⟨y, hy⟩ : ∃ y, L[j]? = some y := ⟨_, List.getElem?_eq_getElem hlt2⟩
            obtain ⟨y1, y2, y3⟩ := hca j y hy
            obtain ⟨z0, z1, z2⟩ := HZ.out y (List.mem_of_getElem? hy)
            have hd := Lx.drop_of_get hy
            have hcb' := hcb.out; have hch' := hch.out
            rw [hd, beforeOf_cons] at hcb'
            rw [hd, behindOf_cons] at hch'
            have c1 := (hB2.cell (p := ⟨w.heap.size, 0, none⟩) hbx4).trans c0
            have HC1 := Lib.hid hcb'; have HC2 := Lib.hid hch'
            clear hcb hch hcb' hch' hd hy hca
            have hw1 : IntKind.i64.wrap (y.pos + (y.text.size : Int)) = y.pos + (y.text.size : Int) := IntWalk.i64_in _ (by omega)
            by_cases p1 : y.pos + (y.text.size : Int) < x.lo
            · by_cases p2 : (k : Int) < y.pos
              · have q3 := HC1.out; have q4 := HC2.out
                rw [if_pos p1] at q3; rw [if_pos p2] at q4
                have Q3 := Lib.hid q3; have Q4 := Lib.hid q4
                clear q3 q4 HC1 HC2
                go_wp2
                go_quiet (fail)
                go_wp2
                go_roundw
                case rel => exact ⟨j + 1, nb + 1, nh + 1, by omega, by go_num, by go_num, by go_num, by omega, by omega, by rw [Hid]; have := Q3.out; omega, by rw [Hid]; have := Q4.out; omega, below_drewN hB2 _⟩
                case measure => simp [intOf]; omega
              · have q3 := HC1.out; have q4 := HC2.out
                rw [if_pos p1] at q3; rw [if_neg p2] at q4
                have Q3 := Lib.hid q3; have Q4 := Lib.hid q4
                clear q3 q4 HC1 HC2
                go_wp2
                go_quiet (fail)
                go_wp2
                go_roundw
                case rel => exact ⟨j + 1, nb + 1, nh, by omega, by go_num, by go_num, by go_num, by omega, by omega, by rw [Hid]; have := Q3.out; omega, by rw [Hid]; have := Q4.out; omega, below_drewN hB2 _⟩
                case measure => simp [intOf]; omega
            · by_cases p2 : (k : Int) < y.pos
              · have q3 := HC1.out; have q4 := HC2.out
                rw [if_neg p1] at q3; rw [if_pos p2] at q4
                have Q3 := Lib.hid q3; have Q4 := Lib.hid q4
                clear q3 q4 HC1 HC2
                go_wp2
                go_quiet (fail)
                go_wp2
                go_roundw
                case rel => exact ⟨j + 1, nb, nh + 1, by omega, by go_num, by go_num, by go_num, by omega, by omega, by rw [Hid]; have := Q3.out; omega, by rw [Hid]; have := Q4.out; omega, below_drewN hB2 _⟩
                case measure => simp [intOf]; omega
              · have q3 := HC1.out; have q4 := HC2.out
                rw [if_neg p1] at q3; rw [if_neg p2] at q4
                have Q3 := Lib.hid q3; have Q4 := Lib.hid q4
                clear q3 q4 HC1 HC2
                go_wp2
                go_quiet (fail)
                go_wp2
                go_roundw
                case rel => exact ⟨j + 1, nb, nh, by omega, by go_num, by go_num, by go_num, by omega, by omega, by rw [Hid]; have := Q3.out; omega, by rw [Hid]; have := Q4.out; omega, below_drewN hB2 _⟩
                case measure => simp [intOf]; omega
          · obtain rfl : j = L.length := by omega
            have e1 : nb = BT := by have := hcb.out; rw [List.drop_length] at this; simpa [Lx.beforeOf] using this
            have e2 : nh = HT := by have := hch.out; rw [List.drop_length] at this; simpa [Lx.behindOf] using this
            subst e1 e2
            clear hcb hch
            have hBw := hBw4.trans (hB2.mono hsz4)
            have r1 : decide ((nb : Int) ≤ (H : Int)) = true := decide_eq_true (by omega)
            have r2 : min (min (nh : Int) ((L.length : Int) - H)) ((L2.length : Int) - H) ≤ (T : Int) := by omega
            have r2' := decide_eq_true r2
            have r3 : decide ((H : Int) + (T : Int) ≤ (L.length : Int)) = true := decide_eq_true (by omega)
            have r4 : decide ((H : Int) + (T : Int) ≤ (L2.length : Int)) = true := decide_eq_true (by omega)
            go_wp2_with (go_at_call 18; refine (HW.out _ hBw).mono ?_; rintro e w9 ⟨rfl, hB9⟩)
            all_goals
              go_ret
              exact ⟨rfl, hBw.trans (hB9.mono hBw.size)⟩

set_option maxRecDepth 100000 in
set_option maxHeartbeats 4000000 in
theorem lawFar_any (s : ByteArray) (x : Lx.Spl) (w : World) (hs : s.size ≤ 281474976710656) (hx : x.text.size ≤ 281474976710656) (hG : GV w) :
    Calls Tryd.prog 14 #[.string s, .agg #[.int .i64 x.lo, .int .i64 x.hi, .string x.text]] w fun e w' => e = .returned (.bool true) ∧ Below w.heap.size w w' := by
  by_cases h1 : s.size ≤ 3000
  · by_cases h2 : x.text.size ≤ 3000
    · by_cases h3 : (Lx.keptOf s x).2.2 = 0
      · exact far_main s x w h1 h2 hG h3
      · have HW := Lib.hid (fun W (hB : Below w.heap.size w W) => awake_any W (hG.below hB))
        have hB0 : Below w.heap.size w (w.alloc (.cells #[.int .i64 x.lo, .int .i64 x.hi, .string x.text] 56)) := (Below.refl _ _).alloc (Nat.le_refl _) _
        have d1 : decide ((s.size : Int) > 3000) = false := decide_eq_false (by omega)
        have d2 : decide ((x.text.size : Int) > 3000) = false := decide_eq_false (by omega)
        have HK := Lib.hid (kept_any s x (w.alloc (.cells #[.int .i64 x.lo, .int .i64 x.hi, .string x.text] 56)) hs (by omega) (hG.below hB0))
        have h0 : (((Lx.keptOf s x).2.2 : Int) != 0) = true := by rw [bne_iff_ne]; omega
        generalize Lx.keptOf s x = R at *
        clear hG h3
        go_enter Tryd.func14, Tryd.ntmps14
        go_wp2_with (first
          | (go_at_call 44; refine HK.out.mono ?_; rintro e w1 ⟨rfl, hB1⟩; have hBw1 := hB0.trans (hB1.mono hB0.size))
          | (go_at_call 18; refine (HW.out w1 hBw1).mono ?_; rintro e w3 ⟨rfl, hB3⟩; have hBw3 := hBw1.trans (hB3.mono hBw1.size)))
        go_ret
        exact ⟨rfl, hBw3⟩
    · have HW := Lib.hid (fun W (hB : Below w.heap.size w W) => awake_any W (hG.below hB))
      have hB0 : Below w.heap.size w (w.alloc (.cells #[.int .i64 x.lo, .int .i64 x.hi, .string x.text] 56)) := (Below.refl _ _).alloc (Nat.le_refl _) _
      have d1 : decide ((s.size : Int) > 3000) = false := decide_eq_false (by omega)
      have d2 : decide ((x.text.size : Int) > 3000) = true := decide_eq_true (by omega)
      go_enter Tryd.func14, Tryd.ntmps14
      go_wp2_with (go_at_call 18; refine (HW.out _ hB0).mono ?_; rintro e w4 ⟨rfl, hB4⟩)
      go_ret
      exact ⟨rfl, hB0.trans (hB4.mono hB0.size)⟩
  · have HW := Lib.hid (fun W (hB : Below w.heap.size w W) => awake_any W (hG.below hB))
    have hB0 : Below w.heap.size w (w.alloc (.cells #[.int .i64 x.lo, .int .i64 x.hi, .string x.text] 56)) := (Below.refl _ _).alloc (Nat.le_refl _) _
    have d1 : decide ((s.size : Int) > 3000) = true := decide_eq_true (by omega)
    go_enter Tryd.func14, Tryd.ntmps14
    go_wp2_with (go_at_call 18; refine (HW.out _ hB0).mono ?_; rintro e w4 ⟨rfl, hB4⟩)
    go_ret
    exact ⟨rfl, hB0.trans (hB4.mono hB0.size)⟩

-- CALL: lawFar_any a0 a1 W (by omega) (by omega) (gv_of_laid hL)
namespace lexFar
set_option maxRecDepth 100000 in
theorem contract (H : Type) (enc : TypeId × Value → H) (W : World) (base : Nat) (args : Array Value) (ds gs : List (DataW H)) (before : List MemPlace)
    (hval : ∀ (j : Nat) t v, Tryd.f14.params[j]? = some t → args[j]? = some v → Value.okWide Tryd.prog W .any base t v)
    (hW : DataW.Whole enc Tryd.prog Tryd.f14.params.toList Rows.lexFarSpec.vars false W args.toList ds gs before)
    (hwt : (DataW.weightsEach Tryd.prog (Tryd.f14.params.toList ++ (OpenSpec.ofChange Rows.lexFarSpec).bare.plain.varTypes Tryd.prog) (ds ++ gs)).all (· ≤ reachBytes) = true)
    (hL : laidMetH Tryd.prog Rows.lexFarRow.laid W) :
    Calls Tryd.prog 14 args W fun e W' => ∃ v, e = .returned v ∧ Rows.lexFarSpec.post enc Tryd.prog Tryd.f14 false true false false W args v W' := by
  have hW' := hW
  obtain ⟨p, q, hA0, hV, rfl, hfz, hnd⟩ := hW
  have hA : DataW.TrodAll enc Tryd.prog W 0 (fun _ => true) true Tryd.f14.params.toList args.toList ds p := hA0
  rw [Tryd.params14] at hA hval hwt
  obtain ⟨v0, vs0, d0, ds0, p0, q0, hargs, rfl, rfl, h0, r0⟩ := trodAll_cons hA
  obtain ⟨v1, vs1, d1, ds1, p1, q1, rfl, rfl, rfl, h1, r1⟩ := trodAll_cons r0
  obtain ⟨rfl, rfl, rfl⟩ := trodAll_nil r1
  obtain rfl : args = #[v0, v1] := by cases args; simp_all
  obtain ⟨rfl, rfl⟩ := trodVars_none hV
  have w0 := reach_of hwt 0 (d := d0) rfl rfl
  obtain ⟨a0, rfl, rfl, rfl, ha0⟩ := Go.ChangeMaps.open_string Tryd.underlying9 (hval 0 9 v0 rfl rfl) h0
  have s0 : a0.size ≤ reachBytes := by simpa using reach_string w0
  have w1 := reach_of hwt 1 (d := d1) rfl rfl
  obtain ⟨a1, rfl, hS1⟩ := open_splV (hval 1 56 v1 rfl rfl) h1 w1
  clear hA0
  unfold reachBytes at *
  refine (lawFar_any a0 a1 W (by omega) (by omega) (gv_of_laid hL)).mono fun e W' ⟨he, hB⟩ => ?_
  subst he
  exact ⟨_, rfl, law_post hW' hB rfl rfl (by
    rw [Tryd.params14]
    exact (fun t ht => by
      simp only [List.mem_cons, List.not_mem_nil, or_false] at ht
      rcases ht with rfl | rfl <;> exact ⟨by kernel_rfl, of_decide_eq_true (by kernel_rfl)⟩)) rfl rfl rfl⟩

def wargs : Array Value := #[.string ⟨#[]⟩, .agg #[.int .i64 0, .int .i64 0, .string ⟨#[]⟩]]
theorem reads (os : Os) {H : Type} (enc : TypeId × Value → H) : ∃ places, DataW.whole enc Tryd.prog ((laidWorld os #[]).forCall (fun _ _ => 0) ⟨#[], wargs, []⟩).memory Tryd.f14.params.toList Rows.lexFarSpec.vars false wargs.toList 8 = some ([.lit (.string []), .agg [.lit (.int .i64 0), .lit (.int .i64 0), .lit (.string [])]], [], places) :=
  ⟨[], by kernel_rfl⟩

set_option maxRecDepth 100000 in
theorem lifted (os : Os) (started : os.Started) (H : Type) (enc : TypeId × Value → H) (F : Stop.Interp) :
    ReturnsInHanded {} Tryd.checked os 14 .any ((OpenSpec.ofChange Rows.lexFarSpec).preRow enc Tryd.prog Tryd.f14 Rows.lexFarRow.domain false Rows.lexFarRow.laid) (((OpenSpec.ofChange Rows.lexFarSpec).at F).post enc Tryd.prog Tryd.f14 false true false false) := by
  obtain ⟨places, hx⟩ := reads os enc
  refine returnsInHanded_of_row (C := Tryd.checked) (s := OpenSpec.ofChange Rows.lexFarSpec) ownK started (by kernel_rfl) Tryd.func14
    (witness_row_at (enc := enc) (C := Tryd.checked) false (laidWorld os #[]) wargs rfl (varsK os wargs) (restK os wargs) (by kernel_rfl)
      (OpenSpec.preRow_of_cond 8 hx (by kernel_rfl) (fun k hk => by cases hk) (by kernel_rfl) (laid_metK os wargs))) ?_
  intro W base args ds gs before hval hW _ _ hwt hL _ _
  exact contract H enc W base args ds gs before hval hW hwt hL

theorem said : Rows.LexFarSaid :=
  OpenClaim.holds_of_cond 14 Tryd.f14 rfl rfl rfl rfl rfl rfl rfl ⟨rfl, rfl, rfl, rfl, rfl⟩ rfl rfl rfl rfl rfl (by kernel_rfl) Tryd.func14 (by kernel_rfl)
    (of_decide_eq_true (by kernel_rfl)) (by unfold Func.isWrapper; first | (rw [if_pos (by decide +kernel)]; kernel_rfl) | (rw [if_neg (by decide +kernel)]; exact ⟨rfl, rfl⟩))
    (fun os started H enc _ F => by rw [OpenClaim.pre_eq_preRow]; exact lifted os started H enc F)

theorem plain (f : FuncId) (fn : Func) (hf : Tryd.pinned.checked.prog.funcNamed "riposte/ripostelaw01.LexFar" = some f) (hfn : Tryd.pinned.checked.prog.funcs[f]? = some fn) :
    true = Tryd.pinned.checked.prog.looks [] ∧ ∀ (j : Nat) t, fn.params[j]? = some t → Tryd.pinned.checked.prog.wantsStandIn t = false := by
  obtain rfl : f = 14 := Option.some.inj ((show Tryd.prog.funcNamed "riposte/ripostelaw01.LexFar" = some 14 by kernel_rfl).symm.trans hf) |>.symm
  obtain rfl : fn = Tryd.f14 := (Option.some.inj (Tryd.func14.symm.trans hfn)).symm
  refine ⟨by kernel_rfl, fun j t ht => ?_⟩
  rw [Tryd.params14] at ht
  exact (show ∀ t ∈ [9, 56], Tryd.prog.wantsStandIn t = false by
    intro t ht
    simp only [List.mem_cons, List.not_mem_nil, or_false] at ht
    rcases ht with rfl | rfl <;> kernel_rfl) t (by simpa using Array.mem_of_getElem? ht)

theorem card : Rows.LexFarCardSaid :=
  Claim7.holds_tied_plain_at .later [] _ _ _ _ said (fun _ h => by cases h) (by kernel_rfl) (fun _ h => by cases h) lexFar_row_tie rfl ⟨rfl, rfl⟩ (by kernel_rfl) rfl plain (by kernel_rfl)
end lexFar
end Go.Proofs.YtchkngabppmbkaaDoor
