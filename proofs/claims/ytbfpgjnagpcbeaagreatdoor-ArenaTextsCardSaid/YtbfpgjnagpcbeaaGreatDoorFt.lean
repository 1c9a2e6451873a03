/-
  WALKS: the reference: the integer with which a text begins; the text of a move.
-/
import Derived.Test.YtbfpgjnagpcbeaaGreatDoorFa
import Derived.Test.YtbfpgjnagpcbeaaGreatDoorFq
namespace Go.Proofs.YtbfpgjnagpcbeaaGreatDoor
open Go.RowKit Go.MapKept Go.Shelf

theorem drop_get {s : ByteArray} {k : Nat} (h : k < s.size) : (s.data.toList.drop k)[0]? = some s[k] := by
  rw [List.getElem?_drop, Nat.add_zero, List.getElem?_eq_getElem (by simpa using h)]
  rfl

set_option maxRecDepth 100000 in
set_option maxHeartbeats 8000000 in
theorem digits_any (s : ByteArray) (_hs : s.size ≤ 281474976710656) (w : World) :
    Calls Tryz.prog 99 #[.string s] w fun e w' => e = .returned (.tuple #[.int .i64 (Ar.digN 19 0 s.data.toList).1, .int .i64 ((Ar.digN 19 0 s.data.toList).2 : Int)]) ∧ w' = w := by
  obtain ⟨D, hD⟩ : ∃ D, D = Ar.digN 19 0 s.data.toList := ⟨_, rfl⟩
  rw [← hD]
  have HD := Lib.hid hD
  clear hD
  go_enter Tryz.func99, Tryz.ntmps99
  go_wp2
  go_loopw [4, 5] (fun v i wr => ∃ (a : Int) (k : Nat), v = .int .i64 a ∧ i = .int .i64 (k : Int) ∧ k ≤ s.size ∧ k ≤ 19 ∧ Hid (D = ((Ar.digN (19 - k) a (s.data.toList.drop k)).1, (Ar.digN (19 - k) a (s.data.toList.drop k)).2 + k)) ∧ wr = w) (fun _ i _ => s.size - (intOf i).toNat)
  case atStart => exact ⟨0, 0, rfl, rfl, Nat.zero_le _, Nat.zero_le _, HD.out, rfl⟩
  case round =>
    obtain ⟨a, k, rfl, rfl, hk, hk19, hr, rfl⟩ := hrel
    have hEnd : ((19 - k = 0 ∨ s.data.toList.drop k = [] ∨ ∃ c, (s.data.toList.drop k)[0]? = some c ∧ ¬ Ar.isDig c) → Hid (D = (a, k))) := fun h => by
      have := hr.out
      rw [Ar.digN_stop h] at this
      simpa [Hid] using this
    have HEnd := Lib.hid hEnd
    clear hEnd
    by_cases hlt : k < s.size
    · have hg := drop_get hlt
      by_cases h19 : k < 19
      · obtain ⟨c, hc⟩ : ∃ c, s[k] = c := ⟨_, rfl⟩
        rw [hc] at hg
        by_cases hd : Ar.isDig c
        · have HN : Hid (D = ((Ar.digN (19 - (k + 1)) (Ar.digStep a c) (s.data.toList.drop (k + 1))).1, (Ar.digN (19 - (k + 1)) (Ar.digStep a c) (s.data.toList.drop (k + 1))).2 + (k + 1))) := by
            have := hr.out
            rw [show 19 - k = (19 - (k + 1)) + 1 by omega, Ar.digN_step hg hd, List.drop_drop] at this
            rw [Hid, this]
            simp only [Nat.add_assoc, Nat.add_comm 1 k]
          have HS : Hid (Ar.digStep a c = IntKind.i64.wrap (IntKind.i64.wrap (10 * a) + ((c.toNat : Int) - 48))) := rfl
          have hd1 : 48 ≤ (c.toNat : Int) := by have := hd.1; omega
          have hd2 : (c.toNat : Int) ≤ 57 := by have := hd.2; omega
          have hw8 : IntKind.u8.wrap ((c.toNat : Int) - 48) = (c.toNat : Int) - 48 := by
            unfold IntKind.wrap; simp [IntKind.bits, IntKind.signed]; omega
          have hlt' : ((k : Int) < (s.size : Int)) := by omega
          have h19' : ((k : Int) < 19) := by omega
          clear hg hd hr
          generalize Ar.digStep a c = a' at *
          go_wp2
          go_roundw
          case rel => exact ⟨a', k + 1, by rw [HS.out, IntWalk.i64_left, IntWalk.i64_left], by go_num, by omega, by omega, HN.out, by first | trivial | rfl⟩
          case measure => simp [intOf]; omega
        · have HN := HEnd.out (.inr (.inr ⟨c, hg, hd⟩))
          have hlt' : ((k : Int) < (s.size : Int)) := by omega
          have h19' : ((k : Int) < 19) := by omega
          clear hg hr HEnd HD
          by_cases hlo : c.toNat < 48
          · have hd1 : ¬ (48 ≤ (c.toNat : Int)) := by omega
            go_wp2
            exact bodyPost_ret (v := .tuple #[.int .i64 a, .int .i64 (k : Int)]) (by simp [results, Tryz.results99, go_sem]) rfl ⟨by rw [HN.out], rfl⟩
          · have hd1 : 48 ≤ (c.toNat : Int) := by omega
            have hd2 : ¬ ((c.toNat : Int) ≤ 57) := by unfold Ar.isDig at hd; omega
            go_wp2
            exact bodyPost_ret (v := .tuple #[.int .i64 a, .int .i64 (k : Int)]) (by simp [results, Tryz.results99, go_sem]) rfl ⟨by rw [HN.out], rfl⟩
      · have HN := HEnd.out (.inl (by omega))
        have h19' : ¬ ((k : Int) < 19) := by omega
        have hlt' : ((k : Int) < (s.size : Int)) := by omega
        clear hr HEnd hg HD
        go_wp2
        exact bodyPost_ret (v := .tuple #[.int .i64 a, .int .i64 (k : Int)]) (by simp [results, Tryz.results99, go_sem]) rfl ⟨by rw [HN.out], rfl⟩
    · have HN := HEnd.out (.inr (.inl (by apply List.drop_of_length_le; show s.size ≤ k; omega)))
      have hlt' : ¬ ((k : Int) < (s.size : Int)) := by omega
      clear hr HEnd HD
      go_wp2
      exact bodyPost_ret (v := .tuple #[.int .i64 a, .int .i64 (k : Int)]) (by simp [results, Tryz.results99, go_sem]) rfl ⟨by rw [HN.out], rfl⟩

theorem empty_end (x : ByteArray) : x ++ ⟨#[]⟩ = x := by
  apply ByteArray.ext
  rw [ByteArray.data_append]
  simp
set_option maxRecDepth 100000 in
set_option maxHeartbeats 8000000 in
theorem words_any (m : Ar.Mv) (h : Ar.hasText m = true) (hm : MvOk m) (w : World) :
    Calls Tryz.prog 98 #[.agg #[.int .i64 m.id, .int .i64 m.arg, .int .u8 m.kind, .int .i64 m.n]] w fun e w' => e = .returned (.string (Ar.textOf m)) ∧ Below w.heap.size w w' := by
  obtain ⟨p1, p2, hk, p4⟩ := hasText_parts h
  have hv := valueT_size m h hm
  obtain ⟨_, b1, _, b2, _, b3⟩ := hm
  have hB0 : Below w.heap.size w (w.alloc (.cells #[.int .i64 m.id, .int .i64 m.arg, .int .u8 m.kind, .int .i64 m.n] 40 (0, 0))) := (Below.refl _ _).alloc (Nat.le_refl _) _
  have j0 := Lib.hid (World.alloc_heap_new w (.cells #[.int .i64 m.id, .int .i64 m.arg, .int .u8 m.kind, .int .i64 m.n] 40 (0, 0)))
  have HI := Lib.hid (fun W => dec_any m.id p1 b1 W)
  have HJ := Lib.hid (fun W => dec_any m.arg p2 b2 W)
  have z1 := itoaB_size m.id p1 b1
  have z2 := itoaB_size m.arg p2 b2
  have hpl : Ar.placeT m = if 0 < m.arg then Ar.itoaB m.id ++ (⟨#[46]⟩ ++ Ar.itoaB m.arg) else Ar.itoaB m.id := rfl
  have hto : Ar.textOf m = Ar.placeT m ++ Ar.signT m ++ Ar.valueT m := rfl
  unfold Ar.hasText at h
  rw [if_neg (by omega)] at h
  -- what stands behind the place, by the kind
  have hkind : (m.kind = 1 ∧ Ar.textOf m = Ar.placeT m ++ ⟨#[63]⟩) ∨ (m.kind = 2 ∧ 0 ≤ m.n ∧ Ar.textOf m = Ar.placeT m ++ ⟨#[61]⟩ ++ Ar.itoaB m.n) ∨ (m.kind = 3 ∧ m.n = -1 ∧ Ar.textOf m = Ar.placeT m ++ ⟨#[33, 42]⟩) ∨ (m.kind = 3 ∧ 0 ≤ m.n ∧ Ar.textOf m = Ar.placeT m ++ ⟨#[33]⟩ ++ Ar.itoaB m.n) := by
    rcases hk with k | k | k
    · refine .inl ⟨k, ?_⟩
      rw [hto]
      unfold Ar.signT Ar.valueT
      rw [if_pos k, if_pos k, empty_end]
    · have k1 : ¬ m.kind = 1 := by omega
      rw [if_neg k1, if_pos k] at h
      have hn := of_decide_eq_true h
      refine .inr (.inl ⟨k, hn, ?_⟩)
      rw [hto]
      unfold Ar.signT Ar.valueT
      rw [if_neg k1, if_pos k, if_neg k1, if_neg (by omega)]
    · have k1 : ¬ m.kind = 1 := by omega
      have k2 : ¬ m.kind = 2 := by omega
      by_cases hn : m.n = -1
      · refine .inr (.inr (.inl ⟨k, hn, ?_⟩))
        rw [hto]
        unfold Ar.signT Ar.valueT
        rw [if_neg k1, if_neg k2, if_neg k1, if_pos hn, ByteArray.append_assoc]
        rfl
      · refine .inr (.inr (.inr ⟨k, by omega, ?_⟩))
        rw [hto]
        unfold Ar.signT Ar.valueT
        rw [if_neg k1, if_neg k2, if_neg k1, if_neg hn]
  have HN := Lib.hid (fun (h0 : 0 ≤ m.n) W => dec_any m.n h0 b3 W)
  have hnz := fun (h0 : 0 ≤ m.n) => itoaB_size m.n h0 b3
  have hid : ∃ pt, Ar.placeT m = pt ∧ pt.size ≤ 201 := by
    refine ⟨_, rfl, ?_⟩
    rw [hpl]
    split
    · have : (⟨#[46]⟩ : ByteArray).size = 1 := rfl
      rw [ByteArray.size_append, ByteArray.size_append]; omega
    · omega
  clear h hto p4 hk
  generalize Ar.textOf m = tx at *
  generalize Ar.itoaB m.id = si at *
  generalize Ar.itoaB m.arg = sj at *
  generalize Ar.itoaB m.n = sn at *
  obtain ⟨pt, hpt, hptz⟩ := hid
  rw [hpt] at hpl hkind
  clear hpt
  generalize Ar.valueT m = vt at *
  obtain ⟨e0, e1, e2, e3, -, -, -, -⟩ := cells4 j0.out
  have c1 : (⟨#[46]⟩ : ByteArray).size ≤ 1 := Nat.le_refl _
  have c2 : (⟨#[63]⟩ : ByteArray).size ≤ 1 := Nat.le_refl _
  have c3 : (⟨#[61]⟩ : ByteArray).size ≤ 1 := Nat.le_refl _
  have c4 : (⟨#[33, 42]⟩ : ByteArray).size ≤ 2 := Nat.le_refl _
  have c5 : (⟨#[33]⟩ : ByteArray).size ≤ 1 := Nat.le_refl _
  have a3 := fun W => sum_ok hptz c2 (by omega) W
  have a4 := fun W => sum_ok hptz c3 (by omega) W
  have a5 := fun W => sum_ok hptz c4 (by omega) W
  have a6 := fun W => sum_ok hptz c5 (by omega) W
  have y4 := sum_size hptz c3
  have y6 := sum_size hptz c5
  have HZN := Lib.hid hnz
  have HKD := Lib.hid hkind
  clear hnz hkind hv p1 p2 b1 b2 b3 c2 c3 c4 c5
  by_cases ha : 0 < m.arg
  · rw [if_pos ha] at hpl
    have a1 := fun W => sum_ok c1 z2 (by omega) W
    have a2 := fun W => sum_ok z1 (sum_size c1 z2) (by omega) W
    rw [← hpl] at a2
    have HPL := Lib.hid hpl
    clear hpl z1 z2 c1
    rcases HKD.out with ⟨k, ht⟩ | ⟨k, hn, ht⟩ | ⟨k, hn, ht⟩ | ⟨k, hn, ht⟩
    · rw [k] at e2 j0 hB0 ⊢
      have HTX := Lib.hid ht
      clear ht k y4 y6 hptz
      go_enter Tryz.func98, Tryz.ntmps98
      go_wp2_with (first
        | (go_at_call 116; have _t := hBw2; refine (HJ.out _).mono ?_; rintro e w3 ⟨rfl, hB3⟩; have hBw3 := hBw2.trans (hB3.mono hBw2.size); have j3 := Lib.hid ((hB3.block _ (lt_of_heap j2.out)).trans j2.out); obtain ⟨g0, g1, g2, g3, -, -, -, -⟩ := cells4 j3.out)
        | (go_at_call 116; refine (HI.out _).mono ?_; rintro e w2 ⟨rfl, hB2⟩; have hBw2 := hB0.trans (hB2.mono hB0.size); have j2 := Lib.hid ((hB2.block _ (lt_of_heap j0.out)).trans j0.out); obtain ⟨f0, f1, f2, f3, -, -, -, -⟩ := cells4 j2.out))
      go_ret
      exact ⟨by rw [HTX.out]; rfl, hBw3⟩
    · rw [k] at e2 j0 hB0 ⊢
      have HTX := Lib.hid ht
      have HNN := Lib.hid (HN.out hn)
      have hzn := HZN.out hn
      have a7 := fun W => sum_ok y4 hzn (by omega) W
      clear ht k y4 y6 hptz hzn hn
      go_enter Tryz.func98, Tryz.ntmps98
      go_wp2_with (first
        | (go_at_call 116; have _t := hBw3; refine (HNN.out _).mono ?_; rintro e w4 ⟨rfl, hB4⟩; have hBw4 := hBw3.trans (hB4.mono hBw3.size))
        | (go_at_call 116; have _t := hBw2; refine (HJ.out _).mono ?_; rintro e w3 ⟨rfl, hB3⟩; have hBw3 := hBw2.trans (hB3.mono hBw2.size); have j3 := Lib.hid ((hB3.block _ (lt_of_heap j2.out)).trans j2.out); obtain ⟨g0, g1, g2, g3, -, -, -, -⟩ := cells4 j3.out)
        | (go_at_call 116; refine (HI.out _).mono ?_; rintro e w2 ⟨rfl, hB2⟩; have hBw2 := hB0.trans (hB2.mono hB0.size); have j2 := Lib.hid ((hB2.block _ (lt_of_heap j0.out)).trans j0.out); obtain ⟨f0, f1, f2, f3, -, -, -, -⟩ := cells4 j2.out))
      go_ret
      exact ⟨by rw [HTX.out]; rfl, hBw4⟩
    · rw [k] at e2 j0 hB0 ⊢
      rw [hn] at e3 j0 hB0 ⊢
      have HTX := Lib.hid ht
      clear ht k y4 y6 hptz hn
      go_enter Tryz.func98, Tryz.ntmps98
      go_wp2_with (first
        | (go_at_call 116; have _t := hBw2; refine (HJ.out _).mono ?_; rintro e w3 ⟨rfl, hB3⟩; have hBw3 := hBw2.trans (hB3.mono hBw2.size); have j3 := Lib.hid ((hB3.block _ (lt_of_heap j2.out)).trans j2.out); obtain ⟨g0, g1, g2, g3, -, -, -, -⟩ := cells4 j3.out)
        | (go_at_call 116; refine (HI.out _).mono ?_; rintro e w2 ⟨rfl, hB2⟩; have hBw2 := hB0.trans (hB2.mono hB0.size); have j2 := Lib.hid ((hB2.block _ (lt_of_heap j0.out)).trans j0.out); obtain ⟨f0, f1, f2, f3, -, -, -, -⟩ := cells4 j2.out))
      go_ret
      exact ⟨by rw [HTX.out]; rfl, hBw3⟩
    · rw [k] at e2 j0 hB0 ⊢
      have HTX := Lib.hid ht
      have HNN := Lib.hid (HN.out hn)
      have hzn := HZN.out hn
      have hn1 : ¬ (m.n = -1) := by omega
      have a7 := fun W => sum_ok y6 hzn (by omega) W
      clear ht k y4 y6 hptz hzn hn
      go_enter Tryz.func98, Tryz.ntmps98
      go_wp2_with (first
        | (go_at_call 116; have _t := hBw3; refine (HNN.out _).mono ?_; rintro e w4 ⟨rfl, hB4⟩; have hBw4 := hBw3.trans (hB4.mono hBw3.size))
        | (go_at_call 116; have _t := hBw2; refine (HJ.out _).mono ?_; rintro e w3 ⟨rfl, hB3⟩; have hBw3 := hBw2.trans (hB3.mono hBw2.size); have j3 := Lib.hid ((hB3.block _ (lt_of_heap j2.out)).trans j2.out); obtain ⟨g0, g1, g2, g3, -, -, -, -⟩ := cells4 j3.out)
        | (go_at_call 116; refine (HI.out _).mono ?_; rintro e w2 ⟨rfl, hB2⟩; have hBw2 := hB0.trans (hB2.mono hB0.size); have j2 := Lib.hid ((hB2.block _ (lt_of_heap j0.out)).trans j0.out); obtain ⟨f0, f1, f2, f3, -, -, -, -⟩ := cells4 j2.out))
      go_ret
      exact ⟨by rw [HTX.out]; rfl, hBw4⟩
  · rw [if_neg ha] at hpl
    subst hpl
    clear z1 z2 c1 HJ
    rcases HKD.out with ⟨k, ht⟩ | ⟨k, hn, ht⟩ | ⟨k, hn, ht⟩ | ⟨k, hn, ht⟩
    · rw [k] at e2 j0 hB0 ⊢
      have HTX := Lib.hid ht
      clear ht k y4 y6 hptz
      go_enter Tryz.func98, Tryz.ntmps98
      go_wp2_with (first
        | (go_at_call 116; refine (HI.out _).mono ?_; rintro e w2 ⟨rfl, hB2⟩; have hBw2 := hB0.trans (hB2.mono hB0.size); have j2 := Lib.hid ((hB2.block _ (lt_of_heap j0.out)).trans j0.out); obtain ⟨f0, f1, f2, f3, -, -, -, -⟩ := cells4 j2.out))
      go_ret
      exact ⟨by rw [HTX.out]; rfl, hBw2⟩
    · rw [k] at e2 j0 hB0 ⊢
      have HTX := Lib.hid ht
      have HNN := Lib.hid (HN.out hn)
      have hzn := HZN.out hn
      have a7 := fun W => sum_ok y4 hzn (by omega) W
      clear ht k y4 y6 hptz hzn hn
      go_enter Tryz.func98, Tryz.ntmps98
      go_wp2_with (first
        | (go_at_call 116; have _t := hBw2; refine (HNN.out _).mono ?_; rintro e w4 ⟨rfl, hB4⟩; have hBw4 := hBw2.trans (hB4.mono hBw2.size))
        | (go_at_call 116; refine (HI.out _).mono ?_; rintro e w2 ⟨rfl, hB2⟩; have hBw2 := hB0.trans (hB2.mono hB0.size); have j2 := Lib.hid ((hB2.block _ (lt_of_heap j0.out)).trans j0.out); obtain ⟨f0, f1, f2, f3, -, -, -, -⟩ := cells4 j2.out))
      go_ret
      exact ⟨by rw [HTX.out]; rfl, hBw4⟩
    · rw [k] at e2 j0 hB0 ⊢
      rw [hn] at e3 j0 hB0 ⊢
      have HTX := Lib.hid ht
      clear ht k y4 y6 hptz hn
      go_enter Tryz.func98, Tryz.ntmps98
      go_wp2_with (first
        | (go_at_call 116; refine (HI.out _).mono ?_; rintro e w2 ⟨rfl, hB2⟩; have hBw2 := hB0.trans (hB2.mono hB0.size); have j2 := Lib.hid ((hB2.block _ (lt_of_heap j0.out)).trans j0.out); obtain ⟨f0, f1, f2, f3, -, -, -, -⟩ := cells4 j2.out))
      go_ret
      exact ⟨by rw [HTX.out]; rfl, hBw2⟩
    · rw [k] at e2 j0 hB0 ⊢
      have HTX := Lib.hid ht
      have HNN := Lib.hid (HN.out hn)
      have hzn := HZN.out hn
      have hn1 : ¬ (m.n = -1) := by omega
      have a7 := fun W => sum_ok y6 hzn (by omega) W
      clear ht k y4 y6 hptz hzn hn
      go_enter Tryz.func98, Tryz.ntmps98
      go_wp2_with (first
        | (go_at_call 116; have _t := hBw2; refine (HNN.out _).mono ?_; rintro e w4 ⟨rfl, hB4⟩; have hBw4 := hBw2.trans (hB4.mono hBw2.size))
        | (go_at_call 116; refine (HI.out _).mono ?_; rintro e w2 ⟨rfl, hB2⟩; have hBw2 := hB0.trans (hB2.mono hB0.size); have j2 := Lib.hid ((hB2.block _ (lt_of_heap j0.out)).trans j0.out); obtain ⟨f0, f1, f2, f3, -, -, -, -⟩ := cells4 j2.out))
      go_ret
      exact ⟨by rw [HTX.out]; rfl, hBw4⟩
end Go.Proofs.YtbfpgjnagpcbeaaGreatDoor
