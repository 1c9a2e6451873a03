/-
  WALKS: the reference: Parse.
-/
import Derived.Test.YtbfpgjnagpcbeaaGreatDoorFu
import Derived.BigRegion
namespace Go.Proofs.YtbfpgjnagpcbeaaGreatDoor
open Go.RowKit Go.MapKept Go.Shelf

theorem ext_list (s : ByteArray) (k : Nat) : (s.extract k s.size).data.toList = s.data.toList.drop k := by
  rw [ByteArray.data_extract, Array.toList_extract]
  show List.take (s.data.toList.length - k) (s.data.toList.drop k) = _
  rw [List.take_of_length_le (by rw [List.length_drop]; omega)]
theorem get_zero {s : ByteArray} (h : 0 < s.size) : s.data.toList[0]? = some s[0] := by
  have := drop_get (s := s) (k := 0) h
  simpa using this
theorem get_none {s : ByteArray} (h : s.size = 0) : s.data.toList[0]? = none := by
  rw [List.getElem?_eq_none_iff]
  show s.size ≤ 0
  omega
namespace Ar
/-- What is made of what was read. -/
def fits (s : ByteArray) (m : Mv) : Mv × Nat := if textRes m = (s, 0) then (m, 0) else (⟨0, 0, 0, 0⟩, 4)
theorem parse_none {s r1 r2 : ByteArray} {n1 av : Int} (h1 : idPart s.data.toList = (n1, r1.data.toList)) (h2 : argPart r1.data.toList = (av, r2.data.toList)) (h : r2.size = 0) : parseRes s = (⟨0, 0, 0, 0⟩, 4) := by
  have hr : refRest s.data.toList = r2.data.toList := by unfold refRest; rw [h1, h2]
  unfold parseRes readRef
  rw [hr, get_none h]
theorem parse_some {s r1 r2 : ByteArray} {n1 av : Int} (h1 : idPart s.data.toList = (n1, r1.data.toList)) (h2 : argPart r1.data.toList = (av, r2.data.toList)) (h : 0 < r2.size) : parseRes s = fits s ⟨n1, av, refKind r2[0], refN r2.data.toList⟩ := by
  have hr : refRest s.data.toList = r2.data.toList := by unfold refRest; rw [h1, h2]
  unfold parseRes readRef fits
  rw [hr, get_zero h, h1, h2]
theorem arg_dot {r1 q1 r2 : ByteArray} {n2 : Int} {k2 : Nat} (h : r1.data.toList[0]? = some 46) (hq : r1.extract 1 r1.size = q1) (h1 : (digN 19 0 q1.data.toList).1 = n2) (h2 : (digN 19 0 q1.data.toList).2 = k2) (hr : r1.extract (1 + k2) r1.size = r2) : argPart r1.data.toList = (n2, r2.data.toList) := by
  have e : q1.data.toList = r1.data.toList.drop 1 := by rw [← hq]; exact ext_list _ _
  unfold argPart
  rw [if_pos h, ← e, h1, h2, ← hr, ext_list]
theorem arg_plain {r1 : ByteArray} (h : r1.data.toList[0]? ≠ some 46) : argPart r1.data.toList = (0, r1.data.toList) := by
  unfold argPart
  rw [if_neg h]
theorem refN_else {r q : ByteArray} {n : Int} (hq : r.extract 1 r.size = q) (hn : (digN 19 0 q.data.toList).1 = n) (h : r ≠ ⟨#[33, 42]⟩) : refN r.data.toList = n := by
  have e : q.data.toList = r.data.toList.drop 1 := by rw [← hq]; exact ext_list _ _
  unfold refN
  rw [if_neg (fun he => h (by apply ByteArray.ext; apply Array.toList_inj.1; exact he)), ← e, hn]
theorem refN_star {r : ByteArray} (h : r = ⟨#[33, 42]⟩) : refN r.data.toList = -1 := by
  subst h; rfl
end Ar
theorem bytes_ne {r t : ByteArray} (h : r ≠ t) : (r.toList == t.toList) = false := by
  rw [beq_eq_false_iff_ne, ByteArray.toList_eq, ByteArray.toList_eq]
  intro e
  exact h (by apply ByteArray.ext; apply Array.toList_inj.1; exact e)
theorem empty_no {r : ByteArray} (h : 0 < r.size) : r.toList.isEmpty = false := by
  rw [ByteArray.toList_eq]
  cases e : r.data.toList with
  | nil => exact absurd (show r.data.toList.length = 0 by rw [e]; rfl) (Nat.ne_of_gt h)
  | cons _ _ => rfl
theorem empty_yes {r : ByteArray} (h : r = ⟨#[]⟩) : r.toList.isEmpty = true := by
  rw [h, ByteArray.toList_eq]; rfl
theorem star_no {r : ByteArray} (h : r ≠ ⟨#[33, 42]⟩) : (r.toList == [33, 42]) = false := by
  rw [beq_eq_false_iff_ne, ByteArray.toList_eq]
  intro e
  exact h (by apply ByteArray.ext; apply Array.toList_inj.1; exact e)
theorem star_yes {r : ByteArray} (h : r = ⟨#[33, 42]⟩) : (r.toList == [33, 42]) = true := by
  rw [h, ByteArray.toList_eq]; rfl
theorem wrap_succ {k : Nat} (h : k ≤ 281474976710656) : wrap64 (1 + (k : Int)) = ((1 + k : Nat) : Int) := by unfold wrap64; omega
theorem size_ext (s : ByteArray) (k : Nat) : (s.extract k s.size).size = s.size - k := by rw [ByteArray.size_extract]; omega
theorem fits_cases (s : ByteArray) (m : Ar.Mv) : (Ar.fits s m = (m, 0) ∧ Ar.textRes m = (s, 0)) ∨ (Ar.fits s m = (⟨0, 0, 0, 0⟩, 4) ∧ (((Ar.textRes m).2 ≠ 0) ∨ ((Ar.textRes m).2 = 0 ∧ (Ar.textRes m).1 ≠ s))) := by
  unfold Ar.fits
  by_cases h : Ar.textRes m = (s, 0)
  · exact .inl ⟨if_pos h, h⟩
  · refine .inr ⟨if_neg h, ?_⟩
    by_cases h2 : (Ar.textRes m).2 = 0
    · exact .inr ⟨h2, fun h1 => h (Prod.ext h1 h2)⟩
    · exact .inl h2

set_option maxRecDepth 100000 in
set_option maxHeartbeats 16000000 in
theorem refParse_any (s : ByteArray) (hs : s.size ≤ 281474976710656) (w : World) :
    Calls Tryz.prog 44 #[.string s] w fun e w' => e = .returned (.tuple #[.agg #[.int .i64 (Ar.parseRes s).1.id, .int .i64 (Ar.parseRes s).1.arg, .int .u8 (Ar.parseRes s).1.kind, .int .i64 (Ar.parseRes s).1.n], .int .i64 ((Ar.parseRes s).2 : Int)]) ∧ Below w.heap.size w w' := by
  obtain ⟨n1, hn1⟩ : ∃ n, (Ar.digN 19 0 s.data.toList).1 = n := ⟨_, rfl⟩
  obtain ⟨k1, hk1⟩ : ∃ k, (Ar.digN 19 0 s.data.toList).2 = k := ⟨_, rfl⟩
  have hb1 : -9223372036854775808 ≤ n1 ∧ n1 ≤ 9223372036854775807 := hn1 ▸ Ar.digN_range 19 0 _ (by omega)
  have hk1s : k1 ≤ s.size := hk1 ▸ (Ar.digN_len 19 0 _).1
  have hd1 := fun W => digits_any s hs W
  rw [hn1, hk1] at hd1
  have HD1 := Lib.hid hd1
  obtain ⟨r1, hr1⟩ : ∃ r, s.extract k1 s.size = r := ⟨_, rfl⟩
  have hz1 : r1.size = s.size - k1 := by rw [← hr1, size_ext]
  have hid : Ar.idPart s.data.toList = (n1, r1.data.toList) := by unfold Ar.idPart; rw [hn1, hk1, ← hr1, ext_list]
  have hka : (0 : Int) ≤ (k1 : Int) := by omega
  have hkb : (k1 : Int) ≤ (s.size : Int) := by omega
  have HS1 := Lib.hid hz1
  clear hd1 hn1 hk1 hk1s
  have HID := Lib.hid hid
  have HSS := Lib.hid hs
  clear hid hs hz1
  go_enter Tryz.func44, Tryz.ntmps44
  go_wp2_with (go_at_call 99; refine (HD1.out _).mono ?_; rintro e w2 ⟨rfl, hw2⟩; subst hw2)
  go_region
  have hs : s.size ≤ 281474976710656 := HSS.out
  have hz1 : r1.size = s.size - k1 := HS1.out
  by_cases hdot : r1.data.toList[0]? = some 46
  · have hp0 : 0 < r1.size := by
      rcases Nat.eq_zero_or_pos r1.size with h | h
      · rw [get_none h] at hdot; cases hdot
      · exact h
    have hpi0 : (0 : Int) < (r1.size : Int) := by omega
    have hp10 : (1 : Int) ≤ (r1.size : Int) := by omega
    have hc0 : r1[0] = 46 := by rw [get_zero hp0] at hdot; exact Option.some.inj hdot
    obtain ⟨q1, hq1⟩ : ∃ q, r1.extract 1 r1.size = q := ⟨_, rfl⟩
    obtain ⟨n2, hn2⟩ : ∃ n, (Ar.digN 19 0 q1.data.toList).1 = n := ⟨_, rfl⟩
    obtain ⟨k2, hk2⟩ : ∃ k, (Ar.digN 19 0 q1.data.toList).2 = k := ⟨_, rfl⟩
    have hb2 : -9223372036854775808 ≤ n2 ∧ n2 ≤ 9223372036854775807 := hn2 ▸ Ar.digN_range 19 0 _ (by omega)
    have hzq : q1.size = r1.size - 1 := by rw [← hq1, size_ext]
    have hk2s : k2 ≤ q1.size := hk2 ▸ (Ar.digN_len 19 0 _).1
    have hd2 := fun W => digits_any q1 (by omega) W
    rw [hn2, hk2] at hd2
    have HD2 := Lib.hid hd2
    obtain ⟨r2, hr2⟩ : ∃ r, r1.extract (1 + k2) r1.size = r := ⟨_, rfl⟩
    have hz2r : r2.size = r1.size - (1 + k2) := by rw [← hr2, size_ext]
    have hpart := Ar.arg_dot hdot hq1 hn2 hk2 hr2
    have hle1 : ((1 + k2 : Nat) : Int) ≤ (r1.size : Int) := by omega
    have hle0 : (0 : Int) ≤ ((1 + k2 : Nat) : Int) := by omega
    have HW1 : Hid (wrap64 (1 + (k2 : Int)) = ((1 + k2 : Nat) : Int)) := wrap_succ (by omega)
    have HW2 : Hid (IntKind.i64.wrap (1 + (k2 : Int)) = ((1 + k2 : Nat) : Int)) := by rw [IntWalk.i64_left]; exact HW1.out
    have HZ2 := Lib.hid hz2r
    have HP2 := Lib.hid hpart
    have HS2 : Hid (r1.size ≤ 281474976710656) := by have := HSS.out; rw [Hid, hz1]; omega
    clear hd2 hn2 hk2 hzq hk2s hdot hs hz1 hz2r hpart
    have hw1 := HW1.out
    have hw2 := HW2.out
    go_wp2_with (go_at_call 99; refine (HD2.out _).mono ?_; rintro e w4 ⟨rfl, hw4⟩; subst hw4)
    go_region
    have hpart := HP2.out
    have hz2r : r2.size = r1.size - (1 + k2) := HZ2.out
    have hs2 : r1.size ≤ 281474976710656 := HS2.out
    clear hw1 hw2
    by_cases h0 : r2.size = 0
    · have HR := Lib.hid (Ar.parse_none HID.out hpart h0)
      have hre : r2 = ⟨#[]⟩ := by apply ByteArray.ext; apply Array.toList_inj.1; exact List.eq_nil_of_length_eq_zero h0
      have hb0 := empty_yes hre
      have hz0 : r2 = ⟨#[]⟩ := hre
      clear hre
      clear hpart h0 hb1 hb2 hz2r hs2
      go_wp2
      have o1 := two_new1 w (.cells #[.int .i64 0, .int .i64 0, .int .u8 0, .int .i64 0] 40 (0, 0)) (.cells #[.int .i64 n1, .int .i64 n2, .int .u8 0, .int .i64 0] 40 (0, 0))
      obtain ⟨x0, x1, x2, x3, -, -, -, -⟩ := cells4 o1
      refine bodyPost_ret (v := .tuple #[.agg #[.int .i64 0, .int .i64 0, .int .u8 0, .int .i64 0], .int .i64 4]) (by simp [results, Tryz.results44, go_sem]) rfl ⟨by rw [HR.out]; rfl, ?_⟩
      exact (fun h : Below w.heap.size w ((w.alloc (.cells #[.int .i64 0, .int .i64 0, .int .u8 0, .int .i64 0] 40 (0, 0))).alloc (.cells #[.int .i64 n1, .int .i64 n2, .int .u8 0, .int .i64 0] 40 (0, 0))) => ⟨h.os, h.tape, h.output, h.size, h.block⟩) (below_two _ _)
    · have hp : 0 < r2.size := by omega
      have hpi : (0 : Int) < (r2.size : Int) := by omega
      have hp1 : (1 : Int) ≤ (r2.size : Int) := by omega
      obtain ⟨c, hc⟩ : ∃ c, r2[0] = c := ⟨_, rfl⟩
      obtain ⟨q2, hq2⟩ : ∃ q, r2.extract 1 r2.size = q := ⟨_, rfl⟩
      obtain ⟨n3, hn3⟩ : ∃ n, (Ar.digN 19 0 q2.data.toList).1 = n := ⟨_, rfl⟩
      obtain ⟨k3, hk3⟩ : ∃ k, (Ar.digN 19 0 q2.data.toList).2 = k := ⟨_, rfl⟩
      have hb3 : -9223372036854775808 ≤ n3 ∧ n3 ≤ 9223372036854775807 := hn3 ▸ Ar.digN_range 19 0 _ (by omega)
      have hz2 : q2.size = r2.size - 1 := by rw [← hq2, size_ext]
      have hd3 := fun W => digits_any q2 (by omega) W
      rw [hn3, hk3] at hd3
      have HD3 := Lib.hid hd3
      have hps := Ar.parse_some HID.out hpart hp
      rw [hc] at hps
      have hb0 := empty_no hp
      clear hd3 hk3 hz2 hpart h0 hz2r hs2
      by_cases hst : r2 = ⟨#[33, 42]⟩
      · have hc33 : c = 33 := by rw [← hc]; subst hst; rfl
        subst hc33
        rw [Ar.refN_star hst, show Ar.refKind 33 = 3 from rfl] at hps
        have hsb := star_yes hst
        clear hst hn3
        have HTX := Lib.hid (fun W => refText_any ⟨n1, n2, 3, -1⟩ ⟨hb1.1, hb1.2, hb2.1, hb2.2, by show _ ≤ (-1 : Int); omega, by show (-1 : Int) ≤ _; omega⟩ W)
        have HFC := Lib.hid (fits_cases s ⟨n1, n2, 3, -1⟩)
        rw [← hps] at HFC
        simp only at HTX
        clear hps hb1 hb3 hb2
        go_wp2_with (go_at_call 99; refine (HD3.out _).mono ?_; rintro e w3 ⟨rfl, hw3⟩; subst hw3)
        rcases HFC.out with ⟨hA, hT⟩ | ⟨hA, hT | ⟨hT, hU⟩⟩
        · have HAA := Lib.hid hA
          rw [hT] at HTX
          clear hA HFC hT
          refine (HTX.out _).mono ?_
          rintro e w9 ⟨rfl, hB9⟩
          have hB9' : Below ((w.alloc (.cells #[.int .i64 0, .int .i64 0, .int .u8 0, .int .i64 0] 40 (0, 0))).alloc (.cells #[.int .i64 n1, .int .i64 n2, .int .u8 3, .int .i64 (-1)] 40 (0, 0))).heap.size ((w.alloc (.cells #[.int .i64 0, .int .i64 0, .int .u8 0, .int .i64 0] 40 (0, 0))).alloc (.cells #[.int .i64 n1, .int .i64 n2, .int .u8 3, .int .i64 (-1)] 40 (0, 0))) w9 := ⟨hB9.os, hB9.tape, hB9.output, hB9.size, hB9.block⟩
          have hBw : Below w.heap.size w w9 := (below_two (.cells #[.int .i64 0, .int .i64 0, .int .u8 0, .int .i64 0] 40 (0, 0)) (.cells #[.int .i64 n1, .int .i64 n2, .int .u8 3, .int .i64 (-1)] 40 (0, 0))).trans (hB9'.mono (below_two (.cells #[.int .i64 0, .int .i64 0, .int .u8 0, .int .i64 0] 40 (0, 0)) (.cells #[.int .i64 n1, .int .i64 n2, .int .u8 3, .int .i64 (-1)] 40 (0, 0))).size)
          obtain ⟨x0, x1, x2, x3, s0, s1, s2, s3⟩ := cells4 ((hB9'.block _ (lt_of_heap (two_new1 w (.cells #[.int .i64 0, .int .i64 0, .int .u8 0, .int .i64 0] 40 (0, 0)) (.cells #[.int .i64 n1, .int .i64 n2, .int .u8 3, .int .i64 (-1)] 40 (0, 0))))).trans (two_new1 w (.cells #[.int .i64 0, .int .i64 0, .int .u8 0, .int .i64 0] 40 (0, 0)) (.cells #[.int .i64 n1, .int .i64 n2, .int .u8 3, .int .i64 (-1)] 40 (0, 0))))
          obtain ⟨y0, y1, y2, y3, -, -, -, -⟩ := cells4 ((hB9'.block _ (lt_of_heap (two_new2 w (.cells #[.int .i64 0, .int .i64 0, .int .u8 0, .int .i64 0] 40 (0, 0)) (.cells #[.int .i64 n1, .int .i64 n2, .int .u8 3, .int .i64 (-1)] 40 (0, 0))))).trans (two_new2 w (.cells #[.int .i64 0, .int .i64 0, .int .u8 0, .int .i64 0] 40 (0, 0)) (.cells #[.int .i64 n1, .int .i64 n2, .int .u8 3, .int .i64 (-1)] 40 (0, 0))))
          have HBW := Lib.hid hBw
          clear hB9 hB9' hBw
          go_wp2
          refine bodyPost_ret (v := .tuple #[.agg #[.int .i64 n1, .int .i64 n2, .int .u8 3, .int .i64 (-1)], .int .i64 0]) (by simp [results, Tryz.results44, go_sem, World.cell?_setCell_same', x0, x1, x2, x3]) rfl ⟨by rw [HAA.out]; rfl, ?_⟩
          iterate 4 (refine Below.setCell ?_ (by simp) _)
          exact HBW.out
        · have HAA := Lib.hid hA
          generalize (Ar.textRes ⟨n1, n2, 3, -1⟩).1 = T1 at *
          generalize (Ar.textRes ⟨n1, n2, 3, -1⟩).2 = T2 at *
          have hne : ((T2 : Int) != 0) = true := by rw [bne_iff_ne]; omega
          clear hA HFC hT
          refine (HTX.out _).mono ?_
          rintro e w9 ⟨rfl, hB9⟩
          have hB9' : Below ((w.alloc (.cells #[.int .i64 0, .int .i64 0, .int .u8 0, .int .i64 0] 40 (0, 0))).alloc (.cells #[.int .i64 n1, .int .i64 n2, .int .u8 3, .int .i64 (-1)] 40 (0, 0))).heap.size ((w.alloc (.cells #[.int .i64 0, .int .i64 0, .int .u8 0, .int .i64 0] 40 (0, 0))).alloc (.cells #[.int .i64 n1, .int .i64 n2, .int .u8 3, .int .i64 (-1)] 40 (0, 0))) w9 := ⟨hB9.os, hB9.tape, hB9.output, hB9.size, hB9.block⟩
          have hBw : Below w.heap.size w w9 := (below_two (.cells #[.int .i64 0, .int .i64 0, .int .u8 0, .int .i64 0] 40 (0, 0)) (.cells #[.int .i64 n1, .int .i64 n2, .int .u8 3, .int .i64 (-1)] 40 (0, 0))).trans (hB9'.mono (below_two (.cells #[.int .i64 0, .int .i64 0, .int .u8 0, .int .i64 0] 40 (0, 0)) (.cells #[.int .i64 n1, .int .i64 n2, .int .u8 3, .int .i64 (-1)] 40 (0, 0))).size)
          obtain ⟨x0, x1, x2, x3, s0, s1, s2, s3⟩ := cells4 ((hB9'.block _ (lt_of_heap (two_new1 w (.cells #[.int .i64 0, .int .i64 0, .int .u8 0, .int .i64 0] 40 (0, 0)) (.cells #[.int .i64 n1, .int .i64 n2, .int .u8 3, .int .i64 (-1)] 40 (0, 0))))).trans (two_new1 w (.cells #[.int .i64 0, .int .i64 0, .int .u8 0, .int .i64 0] 40 (0, 0)) (.cells #[.int .i64 n1, .int .i64 n2, .int .u8 3, .int .i64 (-1)] 40 (0, 0))))
          obtain ⟨y0, y1, y2, y3, -, -, -, -⟩ := cells4 ((hB9'.block _ (lt_of_heap (two_new2 w (.cells #[.int .i64 0, .int .i64 0, .int .u8 0, .int .i64 0] 40 (0, 0)) (.cells #[.int .i64 n1, .int .i64 n2, .int .u8 3, .int .i64 (-1)] 40 (0, 0))))).trans (two_new2 w (.cells #[.int .i64 0, .int .i64 0, .int .u8 0, .int .i64 0] 40 (0, 0)) (.cells #[.int .i64 n1, .int .i64 n2, .int .u8 3, .int .i64 (-1)] 40 (0, 0))))
          have HBW := Lib.hid hBw
          clear hB9 hB9' hBw
          go_wp2
          refine bodyPost_ret (v := .tuple #[.agg #[.int .i64 0, .int .i64 0, .int .u8 0, .int .i64 0], .int .i64 4]) (by simp [results, Tryz.results44, go_sem, World.cell?_setCell_same', x0, x1, x2, x3]) rfl ⟨by rw [HAA.out]; rfl, ?_⟩
          iterate 4 (refine Below.setCell ?_ (by simp) _)
          exact HBW.out
        · have HAA := Lib.hid hA
          generalize (Ar.textRes ⟨n1, n2, 3, -1⟩).1 = T1 at *
          generalize (Ar.textRes ⟨n1, n2, 3, -1⟩).2 = T2 at *
          subst hT
          have hne := bytes_ne hU
          clear hA HFC hU
          refine (HTX.out _).mono ?_
          rintro e w9 ⟨rfl, hB9⟩
          have hB9' : Below ((w.alloc (.cells #[.int .i64 0, .int .i64 0, .int .u8 0, .int .i64 0] 40 (0, 0))).alloc (.cells #[.int .i64 n1, .int .i64 n2, .int .u8 3, .int .i64 (-1)] 40 (0, 0))).heap.size ((w.alloc (.cells #[.int .i64 0, .int .i64 0, .int .u8 0, .int .i64 0] 40 (0, 0))).alloc (.cells #[.int .i64 n1, .int .i64 n2, .int .u8 3, .int .i64 (-1)] 40 (0, 0))) w9 := ⟨hB9.os, hB9.tape, hB9.output, hB9.size, hB9.block⟩
          have hBw : Below w.heap.size w w9 := (below_two (.cells #[.int .i64 0, .int .i64 0, .int .u8 0, .int .i64 0] 40 (0, 0)) (.cells #[.int .i64 n1, .int .i64 n2, .int .u8 3, .int .i64 (-1)] 40 (0, 0))).trans (hB9'.mono (below_two (.cells #[.int .i64 0, .int .i64 0, .int .u8 0, .int .i64 0] 40 (0, 0)) (.cells #[.int .i64 n1, .int .i64 n2, .int .u8 3, .int .i64 (-1)] 40 (0, 0))).size)
          obtain ⟨x0, x1, x2, x3, s0, s1, s2, s3⟩ := cells4 ((hB9'.block _ (lt_of_heap (two_new1 w (.cells #[.int .i64 0, .int .i64 0, .int .u8 0, .int .i64 0] 40 (0, 0)) (.cells #[.int .i64 n1, .int .i64 n2, .int .u8 3, .int .i64 (-1)] 40 (0, 0))))).trans (two_new1 w (.cells #[.int .i64 0, .int .i64 0, .int .u8 0, .int .i64 0] 40 (0, 0)) (.cells #[.int .i64 n1, .int .i64 n2, .int .u8 3, .int .i64 (-1)] 40 (0, 0))))
          obtain ⟨y0, y1, y2, y3, -, -, -, -⟩ := cells4 ((hB9'.block _ (lt_of_heap (two_new2 w (.cells #[.int .i64 0, .int .i64 0, .int .u8 0, .int .i64 0] 40 (0, 0)) (.cells #[.int .i64 n1, .int .i64 n2, .int .u8 3, .int .i64 (-1)] 40 (0, 0))))).trans (two_new2 w (.cells #[.int .i64 0, .int .i64 0, .int .u8 0, .int .i64 0] 40 (0, 0)) (.cells #[.int .i64 n1, .int .i64 n2, .int .u8 3, .int .i64 (-1)] 40 (0, 0))))
          have HBW := Lib.hid hBw
          clear hB9 hB9' hBw
          go_wp2
          refine bodyPost_ret (v := .tuple #[.agg #[.int .i64 0, .int .i64 0, .int .u8 0, .int .i64 0], .int .i64 4]) (by simp [results, Tryz.results44, go_sem, World.cell?_setCell_same', x0, x1, x2, x3]) rfl ⟨by rw [HAA.out]; rfl, ?_⟩
          iterate 4 (refine Below.setCell ?_ (by simp) _)
          exact HBW.out
      · have hsb := star_no hst
        rw [Ar.refN_else hq2 hn3 hst] at hps
        clear hst hn3
        by_cases hc63 : c = 63
        · subst hc63
          rw [show Ar.refKind 63 = 1 from rfl] at hps
          have HTX := Lib.hid (fun W => refText_any ⟨n1, n2, 1, n3⟩ ⟨hb1.1, hb1.2, hb2.1, hb2.2, hb3.1, hb3.2⟩ W)
          have HFC := Lib.hid (fits_cases s ⟨n1, n2, 1, n3⟩)
          rw [← hps] at HFC
          simp only at HTX
          clear hps hb1 hb3 hb2
          go_wp2_with (go_at_call 99; refine (HD3.out _).mono ?_; rintro e w3 ⟨rfl, hw3⟩; subst hw3)
          rcases HFC.out with ⟨hA, hT⟩ | ⟨hA, hT | ⟨hT, hU⟩⟩
          · have HAA := Lib.hid hA
            rw [hT] at HTX
            clear hA HFC hT
            refine (HTX.out _).mono ?_
            rintro e w9 ⟨rfl, hB9⟩
            have hB9' : Below ((w.alloc (.cells #[.int .i64 0, .int .i64 0, .int .u8 0, .int .i64 0] 40 (0, 0))).alloc (.cells #[.int .i64 n1, .int .i64 n2, .int .u8 1, .int .i64 n3] 40 (0, 0))).heap.size ((w.alloc (.cells #[.int .i64 0, .int .i64 0, .int .u8 0, .int .i64 0] 40 (0, 0))).alloc (.cells #[.int .i64 n1, .int .i64 n2, .int .u8 1, .int .i64 n3] 40 (0, 0))) w9 := ⟨hB9.os, hB9.tape, hB9.output, hB9.size, hB9.block⟩
            have hBw : Below w.heap.size w w9 := (below_two (.cells #[.int .i64 0, .int .i64 0, .int .u8 0, .int .i64 0] 40 (0, 0)) (.cells #[.int .i64 n1, .int .i64 n2, .int .u8 1, .int .i64 n3] 40 (0, 0))).trans (hB9'.mono (below_two (.cells #[.int .i64 0, .int .i64 0, .int .u8 0, .int .i64 0] 40 (0, 0)) (.cells #[.int .i64 n1, .int .i64 n2, .int .u8 1, .int .i64 n3] 40 (0, 0))).size)
            obtain ⟨x0, x1, x2, x3, s0, s1, s2, s3⟩ := cells4 ((hB9'.block _ (lt_of_heap (two_new1 w (.cells #[.int .i64 0, .int .i64 0, .int .u8 0, .int .i64 0] 40 (0, 0)) (.cells #[.int .i64 n1, .int .i64 n2, .int .u8 1, .int .i64 n3] 40 (0, 0))))).trans (two_new1 w (.cells #[.int .i64 0, .int .i64 0, .int .u8 0, .int .i64 0] 40 (0, 0)) (.cells #[.int .i64 n1, .int .i64 n2, .int .u8 1, .int .i64 n3] 40 (0, 0))))
            obtain ⟨y0, y1, y2, y3, -, -, -, -⟩ := cells4 ((hB9'.block _ (lt_of_heap (two_new2 w (.cells #[.int .i64 0, .int .i64 0, .int .u8 0, .int .i64 0] 40 (0, 0)) (.cells #[.int .i64 n1, .int .i64 n2, .int .u8 1, .int .i64 n3] 40 (0, 0))))).trans (two_new2 w (.cells #[.int .i64 0, .int .i64 0, .int .u8 0, .int .i64 0] 40 (0, 0)) (.cells #[.int .i64 n1, .int .i64 n2, .int .u8 1, .int .i64 n3] 40 (0, 0))))
            have HBW := Lib.hid hBw
            clear hB9 hB9' hBw
            go_wp2
            refine bodyPost_ret (v := .tuple #[.agg #[.int .i64 n1, .int .i64 n2, .int .u8 1, .int .i64 n3], .int .i64 0]) (by simp [results, Tryz.results44, go_sem, World.cell?_setCell_same', x0, x1, x2, x3]) rfl ⟨by rw [HAA.out]; rfl, ?_⟩
            iterate 4 (refine Below.setCell ?_ (by simp) _)
            exact HBW.out
          · have HAA := Lib.hid hA
            generalize (Ar.textRes ⟨n1, n2, 1, n3⟩).1 = T1 at *
            generalize (Ar.textRes ⟨n1, n2, 1, n3⟩).2 = T2 at *
            have hne : ((T2 : Int) != 0) = true := by rw [bne_iff_ne]; omega
            clear hA HFC hT
            refine (HTX.out _).mono ?_
            rintro e w9 ⟨rfl, hB9⟩
            have hB9' : Below ((w.alloc (.cells #[.int .i64 0, .int .i64 0, .int .u8 0, .int .i64 0] 40 (0, 0))).alloc (.cells #[.int .i64 n1, .int .i64 n2, .int .u8 1, .int .i64 n3] 40 (0, 0))).heap.size ((w.alloc (.cells #[.int .i64 0, .int .i64 0, .int .u8 0, .int .i64 0] 40 (0, 0))).alloc (.cells #[.int .i64 n1, .int .i64 n2, .int .u8 1, .int .i64 n3] 40 (0, 0))) w9 := ⟨hB9.os, hB9.tape, hB9.output, hB9.size, hB9.block⟩
            have hBw : Below w.heap.size w w9 := (below_two (.cells #[.int .i64 0, .int .i64 0, .int .u8 0, .int .i64 0] 40 (0, 0)) (.cells #[.int .i64 n1, .int .i64 n2, .int .u8 1, .int .i64 n3] 40 (0, 0))).trans (hB9'.mono (below_two (.cells #[.int .i64 0, .int .i64 0, .int .u8 0, .int .i64 0] 40 (0, 0)) (.cells #[.int .i64 n1, .int .i64 n2, .int .u8 1, .int .i64 n3] 40 (0, 0))).size)
            obtain ⟨x0, x1, x2, x3, s0, s1, s2, s3⟩ := cells4 ((hB9'.block _ (lt_of_heap (two_new1 w (.cells #[.int .i64 0, .int .i64 0, .int .u8 0, .int .i64 0] 40 (0, 0)) (.cells #[.int .i64 n1, .int .i64 n2, .int .u8 1, .int .i64 n3] 40 (0, 0))))).trans (two_new1 w (.cells #[.int .i64 0, .int .i64 0, .int .u8 0, .int .i64 0] 40 (0, 0)) (.cells #[.int .i64 n1, .int .i64 n2, .int .u8 1, .int .i64 n3] 40 (0, 0))))
            obtain ⟨y0, y1, y2, y3, -, -, -, -⟩ := cells4 ((hB9'.block _ (lt_of_heap (two_new2 w (.cells #[.int .i64 0, .int .i64 0, .int .u8 0, .int .i64 0] 40 (0, 0)) (.cells #[.int .i64 n1, .int .i64 n2, .int .u8 1, .int .i64 n3] 40 (0, 0))))).trans (two_new2 w (.cells #[.int .i64 0, .int .i64 0, .int .u8 0, .int .i64 0] 40 (0, 0)) (.cells #[.int .i64 n1, .int .i64 n2, .int .u8 1, .int .i64 n3] 40 (0, 0))))
            have HBW := Lib.hid hBw
            clear hB9 hB9' hBw
            go_wp2
            refine bodyPost_ret (v := .tuple #[.agg #[.int .i64 0, .int .i64 0, .int .u8 0, .int .i64 0], .int .i64 4]) (by simp [results, Tryz.results44, go_sem, World.cell?_setCell_same', x0, x1, x2, x3]) rfl ⟨by rw [HAA.out]; rfl, ?_⟩
            iterate 4 (refine Below.setCell ?_ (by simp) _)
            exact HBW.out
          · have HAA := Lib.hid hA
            generalize (Ar.textRes ⟨n1, n2, 1, n3⟩).1 = T1 at *
            generalize (Ar.textRes ⟨n1, n2, 1, n3⟩).2 = T2 at *
            subst hT
            have hne := bytes_ne hU
            clear hA HFC hU
            refine (HTX.out _).mono ?_
            rintro e w9 ⟨rfl, hB9⟩
            have hB9' : Below ((w.alloc (.cells #[.int .i64 0, .int .i64 0, .int .u8 0, .int .i64 0] 40 (0, 0))).alloc (.cells #[.int .i64 n1, .int .i64 n2, .int .u8 1, .int .i64 n3] 40 (0, 0))).heap.size ((w.alloc (.cells #[.int .i64 0, .int .i64 0, .int .u8 0, .int .i64 0] 40 (0, 0))).alloc (.cells #[.int .i64 n1, .int .i64 n2, .int .u8 1, .int .i64 n3] 40 (0, 0))) w9 := ⟨hB9.os, hB9.tape, hB9.output, hB9.size, hB9.block⟩
            have hBw : Below w.heap.size w w9 := (below_two (.cells #[.int .i64 0, .int .i64 0, .int .u8 0, .int .i64 0] 40 (0, 0)) (.cells #[.int .i64 n1, .int .i64 n2, .int .u8 1, .int .i64 n3] 40 (0, 0))).trans (hB9'.mono (below_two (.cells #[.int .i64 0, .int .i64 0, .int .u8 0, .int .i64 0] 40 (0, 0)) (.cells #[.int .i64 n1, .int .i64 n2, .int .u8 1, .int .i64 n3] 40 (0, 0))).size)
            obtain ⟨x0, x1, x2, x3, s0, s1, s2, s3⟩ := cells4 ((hB9'.block _ (lt_of_heap (two_new1 w (.cells #[.int .i64 0, .int .i64 0, .int .u8 0, .int .i64 0] 40 (0, 0)) (.cells #[.int .i64 n1, .int .i64 n2, .int .u8 1, .int .i64 n3] 40 (0, 0))))).trans (two_new1 w (.cells #[.int .i64 0, .int .i64 0, .int .u8 0, .int .i64 0] 40 (0, 0)) (.cells #[.int .i64 n1, .int .i64 n2, .int .u8 1, .int .i64 n3] 40 (0, 0))))
            obtain ⟨y0, y1, y2, y3, -, -, -, -⟩ := cells4 ((hB9'.block _ (lt_of_heap (two_new2 w (.cells #[.int .i64 0, .int .i64 0, .int .u8 0, .int .i64 0] 40 (0, 0)) (.cells #[.int .i64 n1, .int .i64 n2, .int .u8 1, .int .i64 n3] 40 (0, 0))))).trans (two_new2 w (.cells #[.int .i64 0, .int .i64 0, .int .u8 0, .int .i64 0] 40 (0, 0)) (.cells #[.int .i64 n1, .int .i64 n2, .int .u8 1, .int .i64 n3] 40 (0, 0))))
            have HBW := Lib.hid hBw
            clear hB9 hB9' hBw
            go_wp2
            refine bodyPost_ret (v := .tuple #[.agg #[.int .i64 0, .int .i64 0, .int .u8 0, .int .i64 0], .int .i64 4]) (by simp [results, Tryz.results44, go_sem, World.cell?_setCell_same', x0, x1, x2, x3]) rfl ⟨by rw [HAA.out]; rfl, ?_⟩
            iterate 4 (refine Below.setCell ?_ (by simp) _)
            exact HBW.out
        · have g63 : ((c.toNat : Int) == 63) = false := by rw [beq_eq_false_iff_ne]; exact fun e => hc63 (UInt8.toNat_inj.1 (show c.toNat = 63 by omega))
          by_cases hc61 : c = 61
          · subst hc61
            rw [show Ar.refKind 61 = 2 from rfl] at hps
            have HTX := Lib.hid (fun W => refText_any ⟨n1, n2, 2, n3⟩ ⟨hb1.1, hb1.2, hb2.1, hb2.2, hb3.1, hb3.2⟩ W)
            have HFC := Lib.hid (fits_cases s ⟨n1, n2, 2, n3⟩)
            rw [← hps] at HFC
            simp only at HTX
            clear hps hb1 hb3 hb2
            go_wp2_with (go_at_call 99; refine (HD3.out _).mono ?_; rintro e w3 ⟨rfl, hw3⟩; subst hw3)
            rcases HFC.out with ⟨hA, hT⟩ | ⟨hA, hT | ⟨hT, hU⟩⟩
            · have HAA := Lib.hid hA
              rw [hT] at HTX
              clear hA HFC hT
              refine (HTX.out _).mono ?_
              rintro e w9 ⟨rfl, hB9⟩
              have hB9' : Below ((w.alloc (.cells #[.int .i64 0, .int .i64 0, .int .u8 0, .int .i64 0] 40 (0, 0))).alloc (.cells #[.int .i64 n1, .int .i64 n2, .int .u8 2, .int .i64 n3] 40 (0, 0))).heap.size ((w.alloc (.cells #[.int .i64 0, .int .i64 0, .int .u8 0, .int .i64 0] 40 (0, 0))).alloc (.cells #[.int .i64 n1, .int .i64 n2, .int .u8 2, .int .i64 n3] 40 (0, 0))) w9 := ⟨hB9.os, hB9.tape, hB9.output, hB9.size, hB9.block⟩
              have hBw : Below w.heap.size w w9 := (below_two (.cells #[.int .i64 0, .int .i64 0, .int .u8 0, .int .i64 0] 40 (0, 0)) (.cells #[.int .i64 n1, .int .i64 n2, .int .u8 2, .int .i64 n3] 40 (0, 0))).trans (hB9'.mono (below_two (.cells #[.int .i64 0, .int .i64 0, .int .u8 0, .int .i64 0] 40 (0, 0)) (.cells #[.int .i64 n1, .int .i64 n2, .int .u8 2, .int .i64 n3] 40 (0, 0))).size)
              obtain ⟨x0, x1, x2, x3, s0, s1, s2, s3⟩ := cells4 ((hB9'.block _ (lt_of_heap (two_new1 w (.cells #[.int .i64 0, .int .i64 0, .int .u8 0, .int .i64 0] 40 (0, 0)) (.cells #[.int .i64 n1, .int .i64 n2, .int .u8 2, .int .i64 n3] 40 (0, 0))))).trans (two_new1 w (.cells #[.int .i64 0, .int .i64 0, .int .u8 0, .int .i64 0] 40 (0, 0)) (.cells #[.int .i64 n1, .int .i64 n2, .int .u8 2, .int .i64 n3] 40 (0, 0))))
              obtain ⟨y0, y1, y2, y3, -, -, -, -⟩ := cells4 ((hB9'.block _ (lt_of_heap (two_new2 w (.cells #[.int .i64 0, .int .i64 0, .int .u8 0, .int .i64 0] 40 (0, 0)) (.cells #[.int .i64 n1, .int .i64 n2, .int .u8 2, .int .i64 n3] 40 (0, 0))))).trans (two_new2 w (.cells #[.int .i64 0, .int .i64 0, .int .u8 0, .int .i64 0] 40 (0, 0)) (.cells #[.int .i64 n1, .int .i64 n2, .int .u8 2, .int .i64 n3] 40 (0, 0))))
              have HBW := Lib.hid hBw
              clear hB9 hB9' hBw
              go_wp2
              refine bodyPost_ret (v := .tuple #[.agg #[.int .i64 n1, .int .i64 n2, .int .u8 2, .int .i64 n3], .int .i64 0]) (by simp [results, Tryz.results44, go_sem, World.cell?_setCell_same', x0, x1, x2, x3]) rfl ⟨by rw [HAA.out]; rfl, ?_⟩
              iterate 4 (refine Below.setCell ?_ (by simp) _)
              exact HBW.out
            · have HAA := Lib.hid hA
              generalize (Ar.textRes ⟨n1, n2, 2, n3⟩).1 = T1 at *
              generalize (Ar.textRes ⟨n1, n2, 2, n3⟩).2 = T2 at *
              have hne : ((T2 : Int) != 0) = true := by rw [bne_iff_ne]; omega
              clear hA HFC hT
              refine (HTX.out _).mono ?_
              rintro e w9 ⟨rfl, hB9⟩
              have hB9' : Below ((w.alloc (.cells #[.int .i64 0, .int .i64 0, .int .u8 0, .int .i64 0] 40 (0, 0))).alloc (.cells #[.int .i64 n1, .int .i64 n2, .int .u8 2, .int .i64 n3] 40 (0, 0))).heap.size ((w.alloc (.cells #[.int .i64 0, .int .i64 0, .int .u8 0, .int .i64 0] 40 (0, 0))).alloc (.cells #[.int .i64 n1, .int .i64 n2, .int .u8 2, .int .i64 n3] 40 (0, 0))) w9 := ⟨hB9.os, hB9.tape, hB9.output, hB9.size, hB9.block⟩
              have hBw : Below w.heap.size w w9 := (below_two (.cells #[.int .i64 0, .int .i64 0, .int .u8 0, .int .i64 0] 40 (0, 0)) (.cells #[.int .i64 n1, .int .i64 n2, .int .u8 2, .int .i64 n3] 40 (0, 0))).trans (hB9'.mono (below_two (.cells #[.int .i64 0, .int .i64 0, .int .u8 0, .int .i64 0] 40 (0, 0)) (.cells #[.int .i64 n1, .int .i64 n2, .int .u8 2, .int .i64 n3] 40 (0, 0))).size)
              obtain ⟨x0, x1, x2, x3, s0, s1, s2, s3⟩ := cells4 ((hB9'.block _ (lt_of_heap (two_new1 w (.cells #[.int .i64 0, .int .i64 0, .int .u8 0, .int .i64 0] 40 (0, 0)) (.cells #[.int .i64 n1, .int .i64 n2, .int .u8 2, .int .i64 n3] 40 (0, 0))))).trans (two_new1 w (.cells #[.int .i64 0, .int .i64 0, .int .u8 0, .int .i64 0] 40 (0, 0)) (.cells #[.int .i64 n1, .int .i64 n2, .int .u8 2, .int .i64 n3] 40 (0, 0))))
              obtain ⟨y0, y1, y2, y3, -, -, -, -⟩ := cells4 ((hB9'.block _ (lt_of_heap (two_new2 w (.cells #[.int .i64 0, .int .i64 0, .int .u8 0, .int .i64 0] 40 (0, 0)) (.cells #[.int .i64 n1, .int .i64 n2, .int .u8 2, .int .i64 n3] 40 (0, 0))))).trans (two_new2 w (.cells #[.int .i64 0, .int .i64 0, .int .u8 0, .int .i64 0] 40 (0, 0)) (.cells #[.int .i64 n1, .int .i64 n2, .int .u8 2, .int .i64 n3] 40 (0, 0))))
              have HBW := Lib.hid hBw
              clear hB9 hB9' hBw
              go_wp2
              refine bodyPost_ret (v := .tuple #[.agg #[.int .i64 0, .int .i64 0, .int .u8 0, .int .i64 0], .int .i64 4]) (by simp [results, Tryz.results44, go_sem, World.cell?_setCell_same', x0, x1, x2, x3]) rfl ⟨by rw [HAA.out]; rfl, ?_⟩
              iterate 4 (refine Below.setCell ?_ (by simp) _)
              exact HBW.out
            · have HAA := Lib.hid hA
              generalize (Ar.textRes ⟨n1, n2, 2, n3⟩).1 = T1 at *
              generalize (Ar.textRes ⟨n1, n2, 2, n3⟩).2 = T2 at *
              subst hT
              have hne := bytes_ne hU
              clear hA HFC hU
              refine (HTX.out _).mono ?_
              rintro e w9 ⟨rfl, hB9⟩
              have hB9' : Below ((w.alloc (.cells #[.int .i64 0, .int .i64 0, .int .u8 0, .int .i64 0] 40 (0, 0))).alloc (.cells #[.int .i64 n1, .int .i64 n2, .int .u8 2, .int .i64 n3] 40 (0, 0))).heap.size ((w.alloc (.cells #[.int .i64 0, .int .i64 0, .int .u8 0, .int .i64 0] 40 (0, 0))).alloc (.cells #[.int .i64 n1, .int .i64 n2, .int .u8 2, .int .i64 n3] 40 (0, 0))) w9 := ⟨hB9.os, hB9.tape, hB9.output, hB9.size, hB9.block⟩
              have hBw : Below w.heap.size w w9 := (below_two (.cells #[.int .i64 0, .int .i64 0, .int .u8 0, .int .i64 0] 40 (0, 0)) (.cells #[.int .i64 n1, .int .i64 n2, .int .u8 2, .int .i64 n3] 40 (0, 0))).trans (hB9'.mono (below_two (.cells #[.int .i64 0, .int .i64 0, .int .u8 0, .int .i64 0] 40 (0, 0)) (.cells #[.int .i64 n1, .int .i64 n2, .int .u8 2, .int .i64 n3] 40 (0, 0))).size)
              obtain ⟨x0, x1, x2, x3, s0, s1, s2, s3⟩ := cells4 ((hB9'.block _ (lt_of_heap (two_new1 w (.cells #[.int .i64 0, .int .i64 0, .int .u8 0, .int .i64 0] 40 (0, 0)) (.cells #[.int .i64 n1, .int .i64 n2, .int .u8 2, .int .i64 n3] 40 (0, 0))))).trans (two_new1 w (.cells #[.int .i64 0, .int .i64 0, .int .u8 0, .int .i64 0] 40 (0, 0)) (.cells #[.int .i64 n1, .int .i64 n2, .int .u8 2, .int .i64 n3] 40 (0, 0))))
              obtain ⟨y0, y1, y2, y3, -, -, -, -⟩ := cells4 ((hB9'.block _ (lt_of_heap (two_new2 w (.cells #[.int .i64 0, .int .i64 0, .int .u8 0, .int .i64 0] 40 (0, 0)) (.cells #[.int .i64 n1, .int .i64 n2, .int .u8 2, .int .i64 n3] 40 (0, 0))))).trans (two_new2 w (.cells #[.int .i64 0, .int .i64 0, .int .u8 0, .int .i64 0] 40 (0, 0)) (.cells #[.int .i64 n1, .int .i64 n2, .int .u8 2, .int .i64 n3] 40 (0, 0))))
              have HBW := Lib.hid hBw
              clear hB9 hB9' hBw
              go_wp2
              refine bodyPost_ret (v := .tuple #[.agg #[.int .i64 0, .int .i64 0, .int .u8 0, .int .i64 0], .int .i64 4]) (by simp [results, Tryz.results44, go_sem, World.cell?_setCell_same', x0, x1, x2, x3]) rfl ⟨by rw [HAA.out]; rfl, ?_⟩
              iterate 4 (refine Below.setCell ?_ (by simp) _)
              exact HBW.out
          · have g61 : ((c.toNat : Int) == 61) = false := by rw [beq_eq_false_iff_ne]; exact fun e => hc61 (UInt8.toNat_inj.1 (show c.toNat = 61 by omega))
            by_cases hc33 : c = 33
            · subst hc33
              rw [show Ar.refKind 33 = 3 from rfl] at hps
              have HTX := Lib.hid (fun W => refText_any ⟨n1, n2, 3, n3⟩ ⟨hb1.1, hb1.2, hb2.1, hb2.2, hb3.1, hb3.2⟩ W)
              have HFC := Lib.hid (fits_cases s ⟨n1, n2, 3, n3⟩)
              rw [← hps] at HFC
              simp only at HTX
              clear hps hb1 hb3 hb2
              go_wp2_with (go_at_call 99; refine (HD3.out _).mono ?_; rintro e w3 ⟨rfl, hw3⟩; subst hw3)
              rcases HFC.out with ⟨hA, hT⟩ | ⟨hA, hT | ⟨hT, hU⟩⟩
              · have HAA := Lib.hid hA
                rw [hT] at HTX
                clear hA HFC hT
                refine (HTX.out _).mono ?_
                rintro e w9 ⟨rfl, hB9⟩
                have hB9' : Below ((w.alloc (.cells #[.int .i64 0, .int .i64 0, .int .u8 0, .int .i64 0] 40 (0, 0))).alloc (.cells #[.int .i64 n1, .int .i64 n2, .int .u8 3, .int .i64 n3] 40 (0, 0))).heap.size ((w.alloc (.cells #[.int .i64 0, .int .i64 0, .int .u8 0, .int .i64 0] 40 (0, 0))).alloc (.cells #[.int .i64 n1, .int .i64 n2, .int .u8 3, .int .i64 n3] 40 (0, 0))) w9 := ⟨hB9.os, hB9.tape, hB9.output, hB9.size, hB9.block⟩
                have hBw : Below w.heap.size w w9 := (below_two (.cells #[.int .i64 0, .int .i64 0, .int .u8 0, .int .i64 0] 40 (0, 0)) (.cells #[.int .i64 n1, .int .i64 n2, .int .u8 3, .int .i64 n3] 40 (0, 0))).trans (hB9'.mono (below_two (.cells #[.int .i64 0, .int .i64 0, .int .u8 0, .int .i64 0] 40 (0, 0)) (.cells #[.int .i64 n1, .int .i64 n2, .int .u8 3, .int .i64 n3] 40 (0, 0))).size)
                obtain ⟨x0, x1, x2, x3, s0, s1, s2, s3⟩ := cells4 ((hB9'.block _ (lt_of_heap (two_new1 w (.cells #[.int .i64 0, .int .i64 0, .int .u8 0, .int .i64 0] 40 (0, 0)) (.cells #[.int .i64 n1, .int .i64 n2, .int .u8 3, .int .i64 n3] 40 (0, 0))))).trans (two_new1 w (.cells #[.int .i64 0, .int .i64 0, .int .u8 0, .int .i64 0] 40 (0, 0)) (.cells #[.int .i64 n1, .int .i64 n2, .int .u8 3, .int .i64 n3] 40 (0, 0))))
                obtain ⟨y0, y1, y2, y3, -, -, -, -⟩ := cells4 ((hB9'.block _ (lt_of_heap (two_new2 w (.cells #[.int .i64 0, .int .i64 0, .int .u8 0, .int .i64 0] 40 (0, 0)) (.cells #[.int .i64 n1, .int .i64 n2, .int .u8 3, .int .i64 n3] 40 (0, 0))))).trans (two_new2 w (.cells #[.int .i64 0, .int .i64 0, .int .u8 0, .int .i64 0] 40 (0, 0)) (.cells #[.int .i64 n1, .int .i64 n2, .int .u8 3, .int .i64 n3] 40 (0, 0))))
                have HBW := Lib.hid hBw
                clear hB9 hB9' hBw
                go_wp2
                refine bodyPost_ret (v := .tuple #[.agg #[.int .i64 n1, .int .i64 n2, .int .u8 3, .int .i64 n3], .int .i64 0]) (by simp [results, Tryz.results44, go_sem, World.cell?_setCell_same', x0, x1, x2, x3]) rfl ⟨by rw [HAA.out]; rfl, ?_⟩
                iterate 4 (refine Below.setCell ?_ (by simp) _)
                exact HBW.out
              · have HAA := Lib.hid hA
                generalize (Ar.textRes ⟨n1, n2, 3, n3⟩).1 = T1 at *
                generalize (Ar.textRes ⟨n1, n2, 3, n3⟩).2 = T2 at *
                have hne : ((T2 : Int) != 0) = true := by rw [bne_iff_ne]; omega
                clear hA HFC hT
                refine (HTX.out _).mono ?_
                rintro e w9 ⟨rfl, hB9⟩
                have hB9' : Below ((w.alloc (.cells #[.int .i64 0, .int .i64 0, .int .u8 0, .int .i64 0] 40 (0, 0))).alloc (.cells #[.int .i64 n1, .int .i64 n2, .int .u8 3, .int .i64 n3] 40 (0, 0))).heap.size ((w.alloc (.cells #[.int .i64 0, .int .i64 0, .int .u8 0, .int .i64 0] 40 (0, 0))).alloc (.cells #[.int .i64 n1, .int .i64 n2, .int .u8 3, .int .i64 n3] 40 (0, 0))) w9 := ⟨hB9.os, hB9.tape, hB9.output, hB9.size, hB9.block⟩
                have hBw : Below w.heap.size w w9 := (below_two (.cells #[.int .i64 0, .int .i64 0, .int .u8 0, .int .i64 0] 40 (0, 0)) (.cells #[.int .i64 n1, .int .i64 n2, .int .u8 3, .int .i64 n3] 40 (0, 0))).trans (hB9'.mono (below_two (.cells #[.int .i64 0, .int .i64 0, .int .u8 0, .int .i64 0] 40 (0, 0)) (.cells #[.int .i64 n1, .int .i64 n2, .int .u8 3, .int .i64 n3] 40 (0, 0))).size)
                obtain ⟨x0, x1, x2, x3, s0, s1, s2, s3⟩ := cells4 ((hB9'.block _ (lt_of_heap (two_new1 w (.cells #[.int .i64 0, .int .i64 0, .int .u8 0, .int .i64 0] 40 (0, 0)) (.cells #[.int .i64 n1, .int .i64 n2, .int .u8 3, .int .i64 n3] 40 (0, 0))))).trans (two_new1 w (.cells #[.int .i64 0, .int .i64 0, .int .u8 0, .int .i64 0] 40 (0, 0)) (.cells #[.int .i64 n1, .int .i64 n2, .int .u8 3, .int .i64 n3] 40 (0, 0))))
                obtain ⟨y0, y1, y2, y3, -, -, -, -⟩ := cells4 ((hB9'.block _ (lt_of_heap (two_new2 w (.cells #[.int .i64 0, .int .i64 0, .int .u8 0, .int .i64 0] 40 (0, 0)) (.cells #[.int .i64 n1, .int .i64 n2, .int .u8 3, .int .i64 n3] 40 (0, 0))))).trans (two_new2 w (.cells #[.int .i64 0, .int .i64 0, .int .u8 0, .int .i64 0] 40 (0, 0)) (.cells #[.int .i64 n1, .int .i64 n2, .int .u8 3, .int .i64 n3] 40 (0, 0))))
                have HBW := Lib.hid hBw
                clear hB9 hB9' hBw
                go_wp2
                refine bodyPost_ret (v := .tuple #[.agg #[.int .i64 0, .int .i64 0, .int .u8 0, .int .i64 0], .int .i64 4]) (by simp [results, Tryz.results44, go_sem, World.cell?_setCell_same', x0, x1, x2, x3]) rfl ⟨by rw [HAA.out]; rfl, ?_⟩
                iterate 4 (refine Below.setCell ?_ (by simp) _)
                exact HBW.out
              · have HAA := Lib.hid hA
                generalize (Ar.textRes ⟨n1, n2, 3, n3⟩).1 = T1 at *
                generalize (Ar.textRes ⟨n1, n2, 3, n3⟩).2 = T2 at *
                subst hT
                have hne := bytes_ne hU
                clear hA HFC hU
                refine (HTX.out _).mono ?_
                rintro e w9 ⟨rfl, hB9⟩
                have hB9' : Below ((w.alloc (.cells #[.int .i64 0, .int .i64 0, .int .u8 0, .int .i64 0] 40 (0, 0))).alloc (.cells #[.int .i64 n1, .int .i64 n2, .int .u8 3, .int .i64 n3] 40 (0, 0))).heap.size ((w.alloc (.cells #[.int .i64 0, .int .i64 0, .int .u8 0, .int .i64 0] 40 (0, 0))).alloc (.cells #[.int .i64 n1, .int .i64 n2, .int .u8 3, .int .i64 n3] 40 (0, 0))) w9 := ⟨hB9.os, hB9.tape, hB9.output, hB9.size, hB9.block⟩
                have hBw : Below w.heap.size w w9 := (below_two (.cells #[.int .i64 0, .int .i64 0, .int .u8 0, .int .i64 0] 40 (0, 0)) (.cells #[.int .i64 n1, .int .i64 n2, .int .u8 3, .int .i64 n3] 40 (0, 0))).trans (hB9'.mono (below_two (.cells #[.int .i64 0, .int .i64 0, .int .u8 0, .int .i64 0] 40 (0, 0)) (.cells #[.int .i64 n1, .int .i64 n2, .int .u8 3, .int .i64 n3] 40 (0, 0))).size)
                obtain ⟨x0, x1, x2, x3, s0, s1, s2, s3⟩ := cells4 ((hB9'.block _ (lt_of_heap (two_new1 w (.cells #[.int .i64 0, .int .i64 0, .int .u8 0, .int .i64 0] 40 (0, 0)) (.cells #[.int .i64 n1, .int .i64 n2, .int .u8 3, .int .i64 n3] 40 (0, 0))))).trans (two_new1 w (.cells #[.int .i64 0, .int .i64 0, .int .u8 0, .int .i64 0] 40 (0, 0)) (.cells #[.int .i64 n1, .int .i64 n2, .int .u8 3, .int .i64 n3] 40 (0, 0))))
                obtain ⟨y0, y1, y2, y3, -, -, -, -⟩ := cells4 ((hB9'.block _ (lt_of_heap (two_new2 w (.cells #[.int .i64 0, .int .i64 0, .int .u8 0, .int .i64 0] 40 (0, 0)) (.cells #[.int .i64 n1, .int .i64 n2, .int .u8 3, .int .i64 n3] 40 (0, 0))))).trans (two_new2 w (.cells #[.int .i64 0, .int .i64 0, .int .u8 0, .int .i64 0] 40 (0, 0)) (.cells #[.int .i64 n1, .int .i64 n2, .int .u8 3, .int .i64 n3] 40 (0, 0))))
                have HBW := Lib.hid hBw
                clear hB9 hB9' hBw
                go_wp2
                refine bodyPost_ret (v := .tuple #[.agg #[.int .i64 0, .int .i64 0, .int .u8 0, .int .i64 0], .int .i64 4]) (by simp [results, Tryz.results44, go_sem, World.cell?_setCell_same', x0, x1, x2, x3]) rfl ⟨by rw [HAA.out]; rfl, ?_⟩
                iterate 4 (refine Below.setCell ?_ (by simp) _)
                exact HBW.out
            · have g33 : ((c.toNat : Int) == 33) = false := by rw [beq_eq_false_iff_ne]; exact fun e => hc33 (UInt8.toNat_inj.1 (show c.toNat = 33 by omega))
              rw [show Ar.refKind c = 0 by unfold Ar.refKind; rw [if_neg hc63, if_neg hc61, if_neg hc33]] at hps
              clear hc63 hc61 hc33
              have HTX := Lib.hid (fun W => refText_any ⟨n1, n2, 0, n3⟩ ⟨hb1.1, hb1.2, hb2.1, hb2.2, hb3.1, hb3.2⟩ W)
              have HFC := Lib.hid (fits_cases s ⟨n1, n2, 0, n3⟩)
              rw [← hps] at HFC
              simp only at HTX
              clear hps hb1 hb3 hb2
              go_wp2_with (go_at_call 99; refine (HD3.out _).mono ?_; rintro e w3 ⟨rfl, hw3⟩; subst hw3)
              rcases HFC.out with ⟨hA, hT⟩ | ⟨hA, hT | ⟨hT, hU⟩⟩
              · have HAA := Lib.hid hA
                rw [hT] at HTX
                clear hA HFC hT
                refine (HTX.out _).mono ?_
                rintro e w9 ⟨rfl, hB9⟩
                have hB9' : Below ((w.alloc (.cells #[.int .i64 0, .int .i64 0, .int .u8 0, .int .i64 0] 40 (0, 0))).alloc (.cells #[.int .i64 n1, .int .i64 n2, .int .u8 0, .int .i64 n3] 40 (0, 0))).heap.size ((w.alloc (.cells #[.int .i64 0, .int .i64 0, .int .u8 0, .int .i64 0] 40 (0, 0))).alloc (.cells #[.int .i64 n1, .int .i64 n2, .int .u8 0, .int .i64 n3] 40 (0, 0))) w9 := ⟨hB9.os, hB9.tape, hB9.output, hB9.size, hB9.block⟩
                have hBw : Below w.heap.size w w9 := (below_two (.cells #[.int .i64 0, .int .i64 0, .int .u8 0, .int .i64 0] 40 (0, 0)) (.cells #[.int .i64 n1, .int .i64 n2, .int .u8 0, .int .i64 n3] 40 (0, 0))).trans (hB9'.mono (below_two (.cells #[.int .i64 0, .int .i64 0, .int .u8 0, .int .i64 0] 40 (0, 0)) (.cells #[.int .i64 n1, .int .i64 n2, .int .u8 0, .int .i64 n3] 40 (0, 0))).size)
                obtain ⟨x0, x1, x2, x3, s0, s1, s2, s3⟩ := cells4 ((hB9'.block _ (lt_of_heap (two_new1 w (.cells #[.int .i64 0, .int .i64 0, .int .u8 0, .int .i64 0] 40 (0, 0)) (.cells #[.int .i64 n1, .int .i64 n2, .int .u8 0, .int .i64 n3] 40 (0, 0))))).trans (two_new1 w (.cells #[.int .i64 0, .int .i64 0, .int .u8 0, .int .i64 0] 40 (0, 0)) (.cells #[.int .i64 n1, .int .i64 n2, .int .u8 0, .int .i64 n3] 40 (0, 0))))
                obtain ⟨y0, y1, y2, y3, -, -, -, -⟩ := cells4 ((hB9'.block _ (lt_of_heap (two_new2 w (.cells #[.int .i64 0, .int .i64 0, .int .u8 0, .int .i64 0] 40 (0, 0)) (.cells #[.int .i64 n1, .int .i64 n2, .int .u8 0, .int .i64 n3] 40 (0, 0))))).trans (two_new2 w (.cells #[.int .i64 0, .int .i64 0, .int .u8 0, .int .i64 0] 40 (0, 0)) (.cells #[.int .i64 n1, .int .i64 n2, .int .u8 0, .int .i64 n3] 40 (0, 0))))
                have HBW := Lib.hid hBw
                clear hB9 hB9' hBw
                go_wp2
                refine bodyPost_ret (v := .tuple #[.agg #[.int .i64 n1, .int .i64 n2, .int .u8 0, .int .i64 n3], .int .i64 0]) (by simp [results, Tryz.results44, go_sem, World.cell?_setCell_same', x0, x1, x2, x3]) rfl ⟨by rw [HAA.out]; rfl, ?_⟩
                iterate 4 (refine Below.setCell ?_ (by simp) _)
                exact HBW.out
              · have HAA := Lib.hid hA
                generalize (Ar.textRes ⟨n1, n2, 0, n3⟩).1 = T1 at *
                generalize (Ar.textRes ⟨n1, n2, 0, n3⟩).2 = T2 at *
                have hne : ((T2 : Int) != 0) = true := by rw [bne_iff_ne]; omega
                clear hA HFC hT
                refine (HTX.out _).mono ?_
                rintro e w9 ⟨rfl, hB9⟩
                have hB9' : Below ((w.alloc (.cells #[.int .i64 0, .int .i64 0, .int .u8 0, .int .i64 0] 40 (0, 0))).alloc (.cells #[.int .i64 n1, .int .i64 n2, .int .u8 0, .int .i64 n3] 40 (0, 0))).heap.size ((w.alloc (.cells #[.int .i64 0, .int .i64 0, .int .u8 0, .int .i64 0] 40 (0, 0))).alloc (.cells #[.int .i64 n1, .int .i64 n2, .int .u8 0, .int .i64 n3] 40 (0, 0))) w9 := ⟨hB9.os, hB9.tape, hB9.output, hB9.size, hB9.block⟩
                have hBw : Below w.heap.size w w9 := (below_two (.cells #[.int .i64 0, .int .i64 0, .int .u8 0, .int .i64 0] 40 (0, 0)) (.cells #[.int .i64 n1, .int .i64 n2, .int .u8 0, .int .i64 n3] 40 (0, 0))).trans (hB9'.mono (below_two (.cells #[.int .i64 0, .int .i64 0, .int .u8 0, .int .i64 0] 40 (0, 0)) (.cells #[.int .i64 n1, .int .i64 n2, .int .u8 0, .int .i64 n3] 40 (0, 0))).size)
                obtain ⟨x0, x1, x2, x3, s0, s1, s2, s3⟩ := cells4 ((hB9'.block _ (lt_of_heap (two_new1 w (.cells #[.int .i64 0, .int .i64 0, .int .u8 0, .int .i64 0] 40 (0, 0)) (.cells #[.int .i64 n1, .int .i64 n2, .int .u8 0, .int .i64 n3] 40 (0, 0))))).trans (two_new1 w (.cells #[.int .i64 0, .int .i64 0, .int .u8 0, .int .i64 0] 40 (0, 0)) (.cells #[.int .i64 n1, .int .i64 n2, .int .u8 0, .int .i64 n3] 40 (0, 0))))
                obtain ⟨y0, y1, y2, y3, -, -, -, -⟩ := cells4 ((hB9'.block _ (lt_of_heap (two_new2 w (.cells #[.int .i64 0, .int .i64 0, .int .u8 0, .int .i64 0] 40 (0, 0)) (.cells #[.int .i64 n1, .int .i64 n2, .int .u8 0, .int .i64 n3] 40 (0, 0))))).trans (two_new2 w (.cells #[.int .i64 0, .int .i64 0, .int .u8 0, .int .i64 0] 40 (0, 0)) (.cells #[.int .i64 n1, .int .i64 n2, .int .u8 0, .int .i64 n3] 40 (0, 0))))
                have HBW := Lib.hid hBw
                clear hB9 hB9' hBw
                go_wp2
                refine bodyPost_ret (v := .tuple #[.agg #[.int .i64 0, .int .i64 0, .int .u8 0, .int .i64 0], .int .i64 4]) (by simp [results, Tryz.results44, go_sem, World.cell?_setCell_same', x0, x1, x2, x3]) rfl ⟨by rw [HAA.out]; rfl, ?_⟩
                iterate 4 (refine Below.setCell ?_ (by simp) _)
                exact HBW.out
              · have HAA := Lib.hid hA
                generalize (Ar.textRes ⟨n1, n2, 0, n3⟩).1 = T1 at *
                generalize (Ar.textRes ⟨n1, n2, 0, n3⟩).2 = T2 at *
                subst hT
                have hne := bytes_ne hU
                clear hA HFC hU
                refine (HTX.out _).mono ?_
                rintro e w9 ⟨rfl, hB9⟩
                have hB9' : Below ((w.alloc (.cells #[.int .i64 0, .int .i64 0, .int .u8 0, .int .i64 0] 40 (0, 0))).alloc (.cells #[.int .i64 n1, .int .i64 n2, .int .u8 0, .int .i64 n3] 40 (0, 0))).heap.size ((w.alloc (.cells #[.int .i64 0, .int .i64 0, .int .u8 0, .int .i64 0] 40 (0, 0))).alloc (.cells #[.int .i64 n1, .int .i64 n2, .int .u8 0, .int .i64 n3] 40 (0, 0))) w9 := ⟨hB9.os, hB9.tape, hB9.output, hB9.size, hB9.block⟩
                have hBw : Below w.heap.size w w9 := (below_two (.cells #[.int .i64 0, .int .i64 0, .int .u8 0, .int .i64 0] 40 (0, 0)) (.cells #[.int .i64 n1, .int .i64 n2, .int .u8 0, .int .i64 n3] 40 (0, 0))).trans (hB9'.mono (below_two (.cells #[.int .i64 0, .int .i64 0, .int .u8 0, .int .i64 0] 40 (0, 0)) (.cells #[.int .i64 n1, .int .i64 n2, .int .u8 0, .int .i64 n3] 40 (0, 0))).size)
                obtain ⟨x0, x1, x2, x3, s0, s1, s2, s3⟩ := cells4 ((hB9'.block _ (lt_of_heap (two_new1 w (.cells #[.int .i64 0, .int .i64 0, .int .u8 0, .int .i64 0] 40 (0, 0)) (.cells #[.int .i64 n1, .int .i64 n2, .int .u8 0, .int .i64 n3] 40 (0, 0))))).trans (two_new1 w (.cells #[.int .i64 0, .int .i64 0, .int .u8 0, .int .i64 0] 40 (0, 0)) (.cells #[.int .i64 n1, .int .i64 n2, .int .u8 0, .int .i64 n3] 40 (0, 0))))
                obtain ⟨y0, y1, y2, y3, -, -, -, -⟩ := cells4 ((hB9'.block _ (lt_of_heap (two_new2 w (.cells #[.int .i64 0, .int .i64 0, .int .u8 0, .int .i64 0] 40 (0, 0)) (.cells #[.int .i64 n1, .int .i64 n2, .int .u8 0, .int .i64 n3] 40 (0, 0))))).trans (two_new2 w (.cells #[.int .i64 0, .int .i64 0, .int .u8 0, .int .i64 0] 40 (0, 0)) (.cells #[.int .i64 n1, .int .i64 n2, .int .u8 0, .int .i64 n3] 40 (0, 0))))
                have HBW := Lib.hid hBw
                clear hB9 hB9' hBw
                go_wp2
                refine bodyPost_ret (v := .tuple #[.agg #[.int .i64 0, .int .i64 0, .int .u8 0, .int .i64 0], .int .i64 4]) (by simp [results, Tryz.results44, go_sem, World.cell?_setCell_same', x0, x1, x2, x3]) rfl ⟨by rw [HAA.out]; rfl, ?_⟩
                iterate 4 (refine Below.setCell ?_ (by simp) _)
                exact HBW.out
  · have hpart := Ar.arg_plain hdot
    by_cases h0 : r1.size = 0
    · have HR := Lib.hid (Ar.parse_none HID.out hpart h0)
      have hre : r1 = ⟨#[]⟩ := by apply ByteArray.ext; apply Array.toList_inj.1; exact List.eq_nil_of_length_eq_zero h0
      subst hre
      clear hpart h0 hb1 hdot hs hz1
      go_wp2
      have o1 := two_new1 w (.cells #[.int .i64 0, .int .i64 0, .int .u8 0, .int .i64 0] 40 (0, 0)) (.cells #[.int .i64 n1, .int .i64 0, .int .u8 0, .int .i64 0] 40 (0, 0))
      obtain ⟨x0, x1, x2, x3, -, -, -, -⟩ := cells4 o1
      refine bodyPost_ret (v := .tuple #[.agg #[.int .i64 0, .int .i64 0, .int .u8 0, .int .i64 0], .int .i64 4]) (by simp [results, Tryz.results44, go_sem]) rfl ⟨by rw [HR.out]; rfl, ?_⟩
      exact (fun h : Below w.heap.size w ((w.alloc (.cells #[.int .i64 0, .int .i64 0, .int .u8 0, .int .i64 0] 40 (0, 0))).alloc (.cells #[.int .i64 n1, .int .i64 0, .int .u8 0, .int .i64 0] 40 (0, 0))) => ⟨h.os, h.tape, h.output, h.size, h.block⟩) (below_two _ _)
    · have hp : 0 < r1.size := by omega
      have hpi : (0 : Int) < (r1.size : Int) := by omega
      have hp1 : (1 : Int) ≤ (r1.size : Int) := by omega
      obtain ⟨c, hc⟩ : ∃ c, r1[0] = c := ⟨_, rfl⟩
      have hcd : c ≠ 46 := fun e => hdot (by rw [get_zero hp, hc, e])
      have hcd' : ((c.toNat : Int) == 46) = false := by rw [beq_eq_false_iff_ne]; exact fun e => hcd (UInt8.toNat_inj.1 (show c.toNat = 46 by omega))
      obtain ⟨q2, hq2⟩ : ∃ q, r1.extract 1 r1.size = q := ⟨_, rfl⟩
      obtain ⟨n3, hn3⟩ : ∃ n, (Ar.digN 19 0 q2.data.toList).1 = n := ⟨_, rfl⟩
      obtain ⟨k3, hk3⟩ : ∃ k, (Ar.digN 19 0 q2.data.toList).2 = k := ⟨_, rfl⟩
      have hb3 : -9223372036854775808 ≤ n3 ∧ n3 ≤ 9223372036854775807 := hn3 ▸ Ar.digN_range 19 0 _ (by omega)
      have hz2 : q2.size = r1.size - 1 := by rw [← hq2, size_ext]
      have hd3 := fun W => digits_any q2 (by omega) W
      rw [hn3, hk3] at hd3
      have HD3 := Lib.hid hd3
      have hps := Ar.parse_some HID.out hpart hp
      rw [hc] at hps
      have hb0 := empty_no hp
      clear hd3 hk3 hz2 hpart h0 hdot hcd hs hz1
      by_cases hst : r1 = ⟨#[33, 42]⟩
      · have hc33 : c = 33 := by rw [← hc]; subst hst; rfl
        subst hc33
        rw [Ar.refN_star hst, show Ar.refKind 33 = 3 from rfl] at hps
        have hsb := star_yes hst
        clear hst hn3
        have HTX := Lib.hid (fun W => refText_any ⟨n1, 0, 3, -1⟩ ⟨hb1.1, hb1.2, by show _ ≤ (0 : Int); omega, by show (0 : Int) ≤ _; omega, by show _ ≤ (-1 : Int); omega, by show (-1 : Int) ≤ _; omega⟩ W)
        have HFC := Lib.hid (fits_cases s ⟨n1, 0, 3, -1⟩)
        rw [← hps] at HFC
        simp only at HTX
        clear hps hb1 hb3
        go_wp2_with (go_at_call 99; refine (HD3.out _).mono ?_; rintro e w3 ⟨rfl, hw3⟩; subst hw3)
        rcases HFC.out with ⟨hA, hT⟩ | ⟨hA, hT | ⟨hT, hU⟩⟩
        · have HAA := Lib.hid hA
          rw [hT] at HTX
          clear hA HFC hT
          refine (HTX.out _).mono ?_
          rintro e w9 ⟨rfl, hB9⟩
          have hB9' : Below ((w.alloc (.cells #[.int .i64 0, .int .i64 0, .int .u8 0, .int .i64 0] 40 (0, 0))).alloc (.cells #[.int .i64 n1, .int .i64 0, .int .u8 3, .int .i64 (-1)] 40 (0, 0))).heap.size ((w.alloc (.cells #[.int .i64 0, .int .i64 0, .int .u8 0, .int .i64 0] 40 (0, 0))).alloc (.cells #[.int .i64 n1, .int .i64 0, .int .u8 3, .int .i64 (-1)] 40 (0, 0))) w9 := ⟨hB9.os, hB9.tape, hB9.output, hB9.size, hB9.block⟩
          have hBw : Below w.heap.size w w9 := (below_two (.cells #[.int .i64 0, .int .i64 0, .int .u8 0, .int .i64 0] 40 (0, 0)) (.cells #[.int .i64 n1, .int .i64 0, .int .u8 3, .int .i64 (-1)] 40 (0, 0))).trans (hB9'.mono (below_two (.cells #[.int .i64 0, .int .i64 0, .int .u8 0, .int .i64 0] 40 (0, 0)) (.cells #[.int .i64 n1, .int .i64 0, .int .u8 3, .int .i64 (-1)] 40 (0, 0))).size)
          obtain ⟨x0, x1, x2, x3, s0, s1, s2, s3⟩ := cells4 ((hB9'.block _ (lt_of_heap (two_new1 w (.cells #[.int .i64 0, .int .i64 0, .int .u8 0, .int .i64 0] 40 (0, 0)) (.cells #[.int .i64 n1, .int .i64 0, .int .u8 3, .int .i64 (-1)] 40 (0, 0))))).trans (two_new1 w (.cells #[.int .i64 0, .int .i64 0, .int .u8 0, .int .i64 0] 40 (0, 0)) (.cells #[.int .i64 n1, .int .i64 0, .int .u8 3, .int .i64 (-1)] 40 (0, 0))))
          obtain ⟨y0, y1, y2, y3, -, -, -, -⟩ := cells4 ((hB9'.block _ (lt_of_heap (two_new2 w (.cells #[.int .i64 0, .int .i64 0, .int .u8 0, .int .i64 0] 40 (0, 0)) (.cells #[.int .i64 n1, .int .i64 0, .int .u8 3, .int .i64 (-1)] 40 (0, 0))))).trans (two_new2 w (.cells #[.int .i64 0, .int .i64 0, .int .u8 0, .int .i64 0] 40 (0, 0)) (.cells #[.int .i64 n1, .int .i64 0, .int .u8 3, .int .i64 (-1)] 40 (0, 0))))
          have HBW := Lib.hid hBw
          clear hB9 hB9' hBw
          go_wp2
          refine bodyPost_ret (v := .tuple #[.agg #[.int .i64 n1, .int .i64 0, .int .u8 3, .int .i64 (-1)], .int .i64 0]) (by simp [results, Tryz.results44, go_sem, World.cell?_setCell_same', x0, x1, x2, x3]) rfl ⟨by rw [HAA.out]; rfl, ?_⟩
          iterate 4 (refine Below.setCell ?_ (by simp) _)
          exact HBW.out
        · have HAA := Lib.hid hA
          generalize (Ar.textRes ⟨n1, 0, 3, -1⟩).1 = T1 at *
          generalize (Ar.textRes ⟨n1, 0, 3, -1⟩).2 = T2 at *
          have hne : ((T2 : Int) != 0) = true := by rw [bne_iff_ne]; omega
          clear hA HFC hT
          refine (HTX.out _).mono ?_
          rintro e w9 ⟨rfl, hB9⟩
          have hB9' : Below ((w.alloc (.cells #[.int .i64 0, .int .i64 0, .int .u8 0, .int .i64 0] 40 (0, 0))).alloc (.cells #[.int .i64 n1, .int .i64 0, .int .u8 3, .int .i64 (-1)] 40 (0, 0))).heap.size ((w.alloc (.cells #[.int .i64 0, .int .i64 0, .int .u8 0, .int .i64 0] 40 (0, 0))).alloc (.cells #[.int .i64 n1, .int .i64 0, .int .u8 3, .int .i64 (-1)] 40 (0, 0))) w9 := ⟨hB9.os, hB9.tape, hB9.output, hB9.size, hB9.block⟩
          have hBw : Below w.heap.size w w9 := (below_two (.cells #[.int .i64 0, .int .i64 0, .int .u8 0, .int .i64 0] 40 (0, 0)) (.cells #[.int .i64 n1, .int .i64 0, .int .u8 3, .int .i64 (-1)] 40 (0, 0))).trans (hB9'.mono (below_two (.cells #[.int .i64 0, .int .i64 0, .int .u8 0, .int .i64 0] 40 (0, 0)) (.cells #[.int .i64 n1, .int .i64 0, .int .u8 3, .int .i64 (-1)] 40 (0, 0))).size)
          obtain ⟨x0, x1, x2, x3, s0, s1, s2, s3⟩ := cells4 ((hB9'.block _ (lt_of_heap (two_new1 w (.cells #[.int .i64 0, .int .i64 0, .int .u8 0, .int .i64 0] 40 (0, 0)) (.cells #[.int .i64 n1, .int .i64 0, .int .u8 3, .int .i64 (-1)] 40 (0, 0))))).trans (two_new1 w (.cells #[.int .i64 0, .int .i64 0, .int .u8 0, .int .i64 0] 40 (0, 0)) (.cells #[.int .i64 n1, .int .i64 0, .int .u8 3, .int .i64 (-1)] 40 (0, 0))))
          obtain ⟨y0, y1, y2, y3, -, -, -, -⟩ := cells4 ((hB9'.block _ (lt_of_heap (two_new2 w (.cells #[.int .i64 0, .int .i64 0, .int .u8 0, .int .i64 0] 40 (0, 0)) (.cells #[.int .i64 n1, .int .i64 0, .int .u8 3, .int .i64 (-1)] 40 (0, 0))))).trans (two_new2 w (.cells #[.int .i64 0, .int .i64 0, .int .u8 0, .int .i64 0] 40 (0, 0)) (.cells #[.int .i64 n1, .int .i64 0, .int .u8 3, .int .i64 (-1)] 40 (0, 0))))
          have HBW := Lib.hid hBw
          clear hB9 hB9' hBw
          go_wp2
          refine bodyPost_ret (v := .tuple #[.agg #[.int .i64 0, .int .i64 0, .int .u8 0, .int .i64 0], .int .i64 4]) (by simp [results, Tryz.results44, go_sem, World.cell?_setCell_same', x0, x1, x2, x3]) rfl ⟨by rw [HAA.out]; rfl, ?_⟩
          iterate 4 (refine Below.setCell ?_ (by simp) _)
          exact HBW.out
        · have HAA := Lib.hid hA
          generalize (Ar.textRes ⟨n1, 0, 3, -1⟩).1 = T1 at *
          generalize (Ar.textRes ⟨n1, 0, 3, -1⟩).2 = T2 at *
          subst hT
          have hne := bytes_ne hU
          clear hA HFC hU
          refine (HTX.out _).mono ?_
          rintro e w9 ⟨rfl, hB9⟩
          have hB9' : Below ((w.alloc (.cells #[.int .i64 0, .int .i64 0, .int .u8 0, .int .i64 0] 40 (0, 0))).alloc (.cells #[.int .i64 n1, .int .i64 0, .int .u8 3, .int .i64 (-1)] 40 (0, 0))).heap.size ((w.alloc (.cells #[.int .i64 0, .int .i64 0, .int .u8 0, .int .i64 0] 40 (0, 0))).alloc (.cells #[.int .i64 n1, .int .i64 0, .int .u8 3, .int .i64 (-1)] 40 (0, 0))) w9 := ⟨hB9.os, hB9.tape, hB9.output, hB9.size, hB9.block⟩
          have hBw : Below w.heap.size w w9 := (below_two (.cells #[.int .i64 0, .int .i64 0, .int .u8 0, .int .i64 0] 40 (0, 0)) (.cells #[.int .i64 n1, .int .i64 0, .int .u8 3, .int .i64 (-1)] 40 (0, 0))).trans (hB9'.mono (below_two (.cells #[.int .i64 0, .int .i64 0, .int .u8 0, .int .i64 0] 40 (0, 0)) (.cells #[.int .i64 n1, .int .i64 0, .int .u8 3, .int .i64 (-1)] 40 (0, 0))).size)
          obtain ⟨x0, x1, x2, x3, s0, s1, s2, s3⟩ := cells4 ((hB9'.block _ (lt_of_heap (two_new1 w (.cells #[.int .i64 0, .int .i64 0, .int .u8 0, .int .i64 0] 40 (0, 0)) (.cells #[.int .i64 n1, .int .i64 0, .int .u8 3, .int .i64 (-1)] 40 (0, 0))))).trans (two_new1 w (.cells #[.int .i64 0, .int .i64 0, .int .u8 0, .int .i64 0] 40 (0, 0)) (.cells #[.int .i64 n1, .int .i64 0, .int .u8 3, .int .i64 (-1)] 40 (0, 0))))
          obtain ⟨y0, y1, y2, y3, -, -, -, -⟩ := cells4 ((hB9'.block _ (lt_of_heap (two_new2 w (.cells #[.int .i64 0, .int .i64 0, .int .u8 0, .int .i64 0] 40 (0, 0)) (.cells #[.int .i64 n1, .int .i64 0, .int .u8 3, .int .i64 (-1)] 40 (0, 0))))).trans (two_new2 w (.cells #[.int .i64 0, .int .i64 0, .int .u8 0, .int .i64 0] 40 (0, 0)) (.cells #[.int .i64 n1, .int .i64 0, .int .u8 3, .int .i64 (-1)] 40 (0, 0))))
          have HBW := Lib.hid hBw
          clear hB9 hB9' hBw
          go_wp2
          refine bodyPost_ret (v := .tuple #[.agg #[.int .i64 0, .int .i64 0, .int .u8 0, .int .i64 0], .int .i64 4]) (by simp [results, Tryz.results44, go_sem, World.cell?_setCell_same', x0, x1, x2, x3]) rfl ⟨by rw [HAA.out]; rfl, ?_⟩
          iterate 4 (refine Below.setCell ?_ (by simp) _)
          exact HBW.out
      · have hsb := star_no hst
        rw [Ar.refN_else hq2 hn3 hst] at hps
        clear hst hn3
        by_cases hc63 : c = 63
        · subst hc63
          rw [show Ar.refKind 63 = 1 from rfl] at hps
          have HTX := Lib.hid (fun W => refText_any ⟨n1, 0, 1, n3⟩ ⟨hb1.1, hb1.2, by show _ ≤ (0 : Int); omega, by show (0 : Int) ≤ _; omega, hb3.1, hb3.2⟩ W)
          have HFC := Lib.hid (fits_cases s ⟨n1, 0, 1, n3⟩)
          rw [← hps] at HFC
          simp only at HTX
          clear hps hb1 hb3
          go_wp2_with (go_at_call 99; refine (HD3.out _).mono ?_; rintro e w3 ⟨rfl, hw3⟩; subst hw3)
          rcases HFC.out with ⟨hA, hT⟩ | ⟨hA, hT | ⟨hT, hU⟩⟩
          · have HAA := Lib.hid hA
            rw [hT] at HTX
            clear hA HFC hT
            refine (HTX.out _).mono ?_
            rintro e w9 ⟨rfl, hB9⟩
            have hB9' : Below ((w.alloc (.cells #[.int .i64 0, .int .i64 0, .int .u8 0, .int .i64 0] 40 (0, 0))).alloc (.cells #[.int .i64 n1, .int .i64 0, .int .u8 1, .int .i64 n3] 40 (0, 0))).heap.size ((w.alloc (.cells #[.int .i64 0, .int .i64 0, .int .u8 0, .int .i64 0] 40 (0, 0))).alloc (.cells #[.int .i64 n1, .int .i64 0, .int .u8 1, .int .i64 n3] 40 (0, 0))) w9 := ⟨hB9.os, hB9.tape, hB9.output, hB9.size, hB9.block⟩
            have hBw : Below w.heap.size w w9 := (below_two (.cells #[.int .i64 0, .int .i64 0, .int .u8 0, .int .i64 0] 40 (0, 0)) (.cells #[.int .i64 n1, .int .i64 0, .int .u8 1, .int .i64 n3] 40 (0, 0))).trans (hB9'.mono (below_two (.cells #[.int .i64 0, .int .i64 0, .int .u8 0, .int .i64 0] 40 (0, 0)) (.cells #[.int .i64 n1, .int .i64 0, .int .u8 1, .int .i64 n3] 40 (0, 0))).size)
            obtain ⟨x0, x1, x2, x3, s0, s1, s2, s3⟩ := cells4 ((hB9'.block _ (lt_of_heap (two_new1 w (.cells #[.int .i64 0, .int .i64 0, .int .u8 0, .int .i64 0] 40 (0, 0)) (.cells #[.int .i64 n1, .int .i64 0, .int .u8 1, .int .i64 n3] 40 (0, 0))))).trans (two_new1 w (.cells #[.int .i64 0, .int .i64 0, .int .u8 0, .int .i64 0] 40 (0, 0)) (.cells #[.int .i64 n1, .int .i64 0, .int .u8 1, .int .i64 n3] 40 (0, 0))))
            obtain ⟨y0, y1, y2, y3, -, -, -, -⟩ := cells4 ((hB9'.block _ (lt_of_heap (two_new2 w (.cells #[.int .i64 0, .int .i64 0, .int .u8 0, .int .i64 0] 40 (0, 0)) (.cells #[.int .i64 n1, .int .i64 0, .int .u8 1, .int .i64 n3] 40 (0, 0))))).trans (two_new2 w (.cells #[.int .i64 0, .int .i64 0, .int .u8 0, .int .i64 0] 40 (0, 0)) (.cells #[.int .i64 n1, .int .i64 0, .int .u8 1, .int .i64 n3] 40 (0, 0))))
            have HBW := Lib.hid hBw
            clear hB9 hB9' hBw
            go_wp2
            refine bodyPost_ret (v := .tuple #[.agg #[.int .i64 n1, .int .i64 0, .int .u8 1, .int .i64 n3], .int .i64 0]) (by simp [results, Tryz.results44, go_sem, World.cell?_setCell_same', x0, x1, x2, x3]) rfl ⟨by rw [HAA.out]; rfl, ?_⟩
            iterate 4 (refine Below.setCell ?_ (by simp) _)
            exact HBW.out
          · have HAA := Lib.hid hA
            generalize (Ar.textRes ⟨n1, 0, 1, n3⟩).1 = T1 at *
            generalize (Ar.textRes ⟨n1, 0, 1, n3⟩).2 = T2 at *
            have hne : ((T2 : Int) != 0) = true := by rw [bne_iff_ne]; omega
            clear hA HFC hT
            refine (HTX.out _).mono ?_
            rintro e w9 ⟨rfl, hB9⟩
            have hB9' : Below ((w.alloc (.cells #[.int .i64 0, .int .i64 0, .int .u8 0, .int .i64 0] 40 (0, 0))).alloc (.cells #[.int .i64 n1, .int .i64 0, .int .u8 1, .int .i64 n3] 40 (0, 0))).heap.size ((w.alloc (.cells #[.int .i64 0, .int .i64 0, .int .u8 0, .int .i64 0] 40 (0, 0))).alloc (.cells #[.int .i64 n1, .int .i64 0, .int .u8 1, .int .i64 n3] 40 (0, 0))) w9 := ⟨hB9.os, hB9.tape, hB9.output, hB9.size, hB9.block⟩
            have hBw : Below w.heap.size w w9 := (below_two (.cells #[.int .i64 0, .int .i64 0, .int .u8 0, .int .i64 0] 40 (0, 0)) (.cells #[.int .i64 n1, .int .i64 0, .int .u8 1, .int .i64 n3] 40 (0, 0))).trans (hB9'.mono (below_two (.cells #[.int .i64 0, .int .i64 0, .int .u8 0, .int .i64 0] 40 (0, 0)) (.cells #[.int .i64 n1, .int .i64 0, .int .u8 1, .int .i64 n3] 40 (0, 0))).size)
            obtain ⟨x0, x1, x2, x3, s0, s1, s2, s3⟩ := cells4 ((hB9'.block _ (lt_of_heap (two_new1 w (.cells #[.int .i64 0, .int .i64 0, .int .u8 0, .int .i64 0] 40 (0, 0)) (.cells #[.int .i64 n1, .int .i64 0, .int .u8 1, .int .i64 n3] 40 (0, 0))))).trans (two_new1 w (.cells #[.int .i64 0, .int .i64 0, .int .u8 0, .int .i64 0] 40 (0, 0)) (.cells #[.int .i64 n1, .int .i64 0, .int .u8 1, .int .i64 n3] 40 (0, 0))))
            obtain ⟨y0, y1, y2, y3, -, -, -, -⟩ := cells4 ((hB9'.block _ (lt_of_heap (two_new2 w (.cells #[.int .i64 0, .int .i64 0, .int .u8 0, .int .i64 0] 40 (0, 0)) (.cells #[.int .i64 n1, .int .i64 0, .int .u8 1, .int .i64 n3] 40 (0, 0))))).trans (two_new2 w (.cells #[.int .i64 0, .int .i64 0, .int .u8 0, .int .i64 0] 40 (0, 0)) (.cells #[.int .i64 n1, .int .i64 0, .int .u8 1, .int .i64 n3] 40 (0, 0))))
            have HBW := Lib.hid hBw
            clear hB9 hB9' hBw
            go_wp2
            refine bodyPost_ret (v := .tuple #[.agg #[.int .i64 0, .int .i64 0, .int .u8 0, .int .i64 0], .int .i64 4]) (by simp [results, Tryz.results44, go_sem, World.cell?_setCell_same', x0, x1, x2, x3]) rfl ⟨by rw [HAA.out]; rfl, ?_⟩
            iterate 4 (refine Below.setCell ?_ (by simp) _)
            exact HBW.out
          · have HAA := Lib.hid hA
            generalize (Ar.textRes ⟨n1, 0, 1, n3⟩).1 = T1 at *
            generalize (Ar.textRes ⟨n1, 0, 1, n3⟩).2 = T2 at *
            subst hT
            have hne := bytes_ne hU
            clear hA HFC hU
            refine (HTX.out _).mono ?_
            rintro e w9 ⟨rfl, hB9⟩
            have hB9' : Below ((w.alloc (.cells #[.int .i64 0, .int .i64 0, .int .u8 0, .int .i64 0] 40 (0, 0))).alloc (.cells #[.int .i64 n1, .int .i64 0, .int .u8 1, .int .i64 n3] 40 (0, 0))).heap.size ((w.alloc (.cells #[.int .i64 0, .int .i64 0, .int .u8 0, .int .i64 0] 40 (0, 0))).alloc (.cells #[.int .i64 n1, .int .i64 0, .int .u8 1, .int .i64 n3] 40 (0, 0))) w9 := ⟨hB9.os, hB9.tape, hB9.output, hB9.size, hB9.block⟩
            have hBw : Below w.heap.size w w9 := (below_two (.cells #[.int .i64 0, .int .i64 0, .int .u8 0, .int .i64 0] 40 (0, 0)) (.cells #[.int .i64 n1, .int .i64 0, .int .u8 1, .int .i64 n3] 40 (0, 0))).trans (hB9'.mono (below_two (.cells #[.int .i64 0, .int .i64 0, .int .u8 0, .int .i64 0] 40 (0, 0)) (.cells #[.int .i64 n1, .int .i64 0, .int .u8 1, .int .i64 n3] 40 (0, 0))).size)
            obtain ⟨x0, x1, x2, x3, s0, s1, s2, s3⟩ := cells4 ((hB9'.block _ (lt_of_heap (two_new1 w (.cells #[.int .i64 0, .int .i64 0, .int .u8 0, .int .i64 0] 40 (0, 0)) (.cells #[.int .i64 n1, .int .i64 0, .int .u8 1, .int .i64 n3] 40 (0, 0))))).trans (two_new1 w (.cells #[.int .i64 0, .int .i64 0, .int .u8 0, .int .i64 0] 40 (0, 0)) (.cells #[.int .i64 n1, .int .i64 0, .int .u8 1, .int .i64 n3] 40 (0, 0))))
            obtain ⟨y0, y1, y2, y3, -, -, -, -⟩ := cells4 ((hB9'.block _ (lt_of_heap (two_new2 w (.cells #[.int .i64 0, .int .i64 0, .int .u8 0, .int .i64 0] 40 (0, 0)) (.cells #[.int .i64 n1, .int .i64 0, .int .u8 1, .int .i64 n3] 40 (0, 0))))).trans (two_new2 w (.cells #[.int .i64 0, .int .i64 0, .int .u8 0, .int .i64 0] 40 (0, 0)) (.cells #[.int .i64 n1, .int .i64 0, .int .u8 1, .int .i64 n3] 40 (0, 0))))
            have HBW := Lib.hid hBw
            clear hB9 hB9' hBw
            go_wp2
            refine bodyPost_ret (v := .tuple #[.agg #[.int .i64 0, .int .i64 0, .int .u8 0, .int .i64 0], .int .i64 4]) (by simp [results, Tryz.results44, go_sem, World.cell?_setCell_same', x0, x1, x2, x3]) rfl ⟨by rw [HAA.out]; rfl, ?_⟩
            iterate 4 (refine Below.setCell ?_ (by simp) _)
            exact HBW.out
        · have g63 : ((c.toNat : Int) == 63) = false := by rw [beq_eq_false_iff_ne]; exact fun e => hc63 (UInt8.toNat_inj.1 (show c.toNat = 63 by omega))
          by_cases hc61 : c = 61
          · subst hc61
            rw [show Ar.refKind 61 = 2 from rfl] at hps
            have HTX := Lib.hid (fun W => refText_any ⟨n1, 0, 2, n3⟩ ⟨hb1.1, hb1.2, by show _ ≤ (0 : Int); omega, by show (0 : Int) ≤ _; omega, hb3.1, hb3.2⟩ W)
            have HFC := Lib.hid (fits_cases s ⟨n1, 0, 2, n3⟩)
            rw [← hps] at HFC
            simp only at HTX
            clear hps hb1 hb3
            go_wp2_with (go_at_call 99; refine (HD3.out _).mono ?_; rintro e w3 ⟨rfl, hw3⟩; subst hw3)
            rcases HFC.out with ⟨hA, hT⟩ | ⟨hA, hT | ⟨hT, hU⟩⟩
            · have HAA := Lib.hid hA
              rw [hT] at HTX
              clear hA HFC hT
              refine (HTX.out _).mono ?_
              rintro e w9 ⟨rfl, hB9⟩
              have hB9' : Below ((w.alloc (.cells #[.int .i64 0, .int .i64 0, .int .u8 0, .int .i64 0] 40 (0, 0))).alloc (.cells #[.int .i64 n1, .int .i64 0, .int .u8 2, .int .i64 n3] 40 (0, 0))).heap.size ((w.alloc (.cells #[.int .i64 0, .int .i64 0, .int .u8 0, .int .i64 0] 40 (0, 0))).alloc (.cells #[.int .i64 n1, .int .i64 0, .int .u8 2, .int .i64 n3] 40 (0, 0))) w9 := ⟨hB9.os, hB9.tape, hB9.output, hB9.size, hB9.block⟩
              have hBw : Below w.heap.size w w9 := (below_two (.cells #[.int .i64 0, .int .i64 0, .int .u8 0, .int .i64 0] 40 (0, 0)) (.cells #[.int .i64 n1, .int .i64 0, .int .u8 2, .int .i64 n3] 40 (0, 0))).trans (hB9'.mono (below_two (.cells #[.int .i64 0, .int .i64 0, .int .u8 0, .int .i64 0] 40 (0, 0)) (.cells #[.int .i64 n1, .int .i64 0, .int .u8 2, .int .i64 n3] 40 (0, 0))).size)
              obtain ⟨x0, x1, x2, x3, s0, s1, s2, s3⟩ := cells4 ((hB9'.block _ (lt_of_heap (two_new1 w (.cells #[.int .i64 0, .int .i64 0, .int .u8 0, .int .i64 0] 40 (0, 0)) (.cells #[.int .i64 n1, .int .i64 0, .int .u8 2, .int .i64 n3] 40 (0, 0))))).trans (two_new1 w (.cells #[.int .i64 0, .int .i64 0, .int .u8 0, .int .i64 0] 40 (0, 0)) (.cells #[.int .i64 n1, .int .i64 0, .int .u8 2, .int .i64 n3] 40 (0, 0))))
              obtain ⟨y0, y1, y2, y3, -, -, -, -⟩ := cells4 ((hB9'.block _ (lt_of_heap (two_new2 w (.cells #[.int .i64 0, .int .i64 0, .int .u8 0, .int .i64 0] 40 (0, 0)) (.cells #[.int .i64 n1, .int .i64 0, .int .u8 2, .int .i64 n3] 40 (0, 0))))).trans (two_new2 w (.cells #[.int .i64 0, .int .i64 0, .int .u8 0, .int .i64 0] 40 (0, 0)) (.cells #[.int .i64 n1, .int .i64 0, .int .u8 2, .int .i64 n3] 40 (0, 0))))
              have HBW := Lib.hid hBw
              clear hB9 hB9' hBw
              go_wp2
              refine bodyPost_ret (v := .tuple #[.agg #[.int .i64 n1, .int .i64 0, .int .u8 2, .int .i64 n3], .int .i64 0]) (by simp [results, Tryz.results44, go_sem, World.cell?_setCell_same', x0, x1, x2, x3]) rfl ⟨by rw [HAA.out]; rfl, ?_⟩
              iterate 4 (refine Below.setCell ?_ (by simp) _)
              exact HBW.out
            · have HAA := Lib.hid hA
              generalize (Ar.textRes ⟨n1, 0, 2, n3⟩).1 = T1 at *
              generalize (Ar.textRes ⟨n1, 0, 2, n3⟩).2 = T2 at *
              have hne : ((T2 : Int) != 0) = true := by rw [bne_iff_ne]; omega
              clear hA HFC hT
              refine (HTX.out _).mono ?_
              rintro e w9 ⟨rfl, hB9⟩
              have hB9' : Below ((w.alloc (.cells #[.int .i64 0, .int .i64 0, .int .u8 0, .int .i64 0] 40 (0, 0))).alloc (.cells #[.int .i64 n1, .int .i64 0, .int .u8 2, .int .i64 n3] 40 (0, 0))).heap.size ((w.alloc (.cells #[.int .i64 0, .int .i64 0, .int .u8 0, .int .i64 0] 40 (0, 0))).alloc (.cells #[.int .i64 n1, .int .i64 0, .int .u8 2, .int .i64 n3] 40 (0, 0))) w9 := ⟨hB9.os, hB9.tape, hB9.output, hB9.size, hB9.block⟩
              have hBw : Below w.heap.size w w9 := (below_two (.cells #[.int .i64 0, .int .i64 0, .int .u8 0, .int .i64 0] 40 (0, 0)) (.cells #[.int .i64 n1, .int .i64 0, .int .u8 2, .int .i64 n3] 40 (0, 0))).trans (hB9'.mono (below_two (.cells #[.int .i64 0, .int .i64 0, .int .u8 0, .int .i64 0] 40 (0, 0)) (.cells #[.int .i64 n1, .int .i64 0, .int .u8 2, .int .i64 n3] 40 (0, 0))).size)
              obtain ⟨x0, x1, x2, x3, s0, s1, s2, s3⟩ := cells4 ((hB9'.block _ (lt_of_heap (two_new1 w (.cells #[.int .i64 0, .int .i64 0, .int .u8 0, .int .i64 0] 40 (0, 0)) (.cells #[.int .i64 n1, .int .i64 0, .int .u8 2, .int .i64 n3] 40 (0, 0))))).trans (two_new1 w (.cells #[.int .i64 0, .int .i64 0, .int .u8 0, .int .i64 0] 40 (0, 0)) (.cells #[.int .i64 n1, .int .i64 0, .int .u8 2, .int .i64 n3] 40 (0, 0))))
              obtain ⟨y0, y1, y2, y3, -, -, -, -⟩ := cells4 ((hB9'.block _ (lt_of_heap (two_new2 w (.cells #[.int .i64 0, .int .i64 0, .int .u8 0, .int .i64 0] 40 (0, 0)) (.cells #[.int .i64 n1, .int .i64 0, .int .u8 2, .int .i64 n3] 40 (0, 0))))).trans (two_new2 w (.cells #[.int .i64 0, .int .i64 0, .int .u8 0, .int .i64 0] 40 (0, 0)) (.cells #[.int .i64 n1, .int .i64 0, .int .u8 2, .int .i64 n3] 40 (0, 0))))
              have HBW := Lib.hid hBw
              clear hB9 hB9' hBw
              go_wp2
              refine bodyPost_ret (v := .tuple #[.agg #[.int .i64 0, .int .i64 0, .int .u8 0, .int .i64 0], .int .i64 4]) (by simp [results, Tryz.results44, go_sem, World.cell?_setCell_same', x0, x1, x2, x3]) rfl ⟨by rw [HAA.out]; rfl, ?_⟩
              iterate 4 (refine Below.setCell ?_ (by simp) _)
              exact HBW.out
            · have HAA := Lib.hid hA
              generalize (Ar.textRes ⟨n1, 0, 2, n3⟩).1 = T1 at *
              generalize (Ar.textRes ⟨n1, 0, 2, n3⟩).2 = T2 at *
              subst hT
              have hne := bytes_ne hU
              clear hA HFC hU
              refine (HTX.out _).mono ?_
              rintro e w9 ⟨rfl, hB9⟩
              have hB9' : Below ((w.alloc (.cells #[.int .i64 0, .int .i64 0, .int .u8 0, .int .i64 0] 40 (0, 0))).alloc (.cells #[.int .i64 n1, .int .i64 0, .int .u8 2, .int .i64 n3] 40 (0, 0))).heap.size ((w.alloc (.cells #[.int .i64 0, .int .i64 0, .int .u8 0, .int .i64 0] 40 (0, 0))).alloc (.cells #[.int .i64 n1, .int .i64 0, .int .u8 2, .int .i64 n3] 40 (0, 0))) w9 := ⟨hB9.os, hB9.tape, hB9.output, hB9.size, hB9.block⟩
              have hBw : Below w.heap.size w w9 := (below_two (.cells #[.int .i64 0, .int .i64 0, .int .u8 0, .int .i64 0] 40 (0, 0)) (.cells #[.int .i64 n1, .int .i64 0, .int .u8 2, .int .i64 n3] 40 (0, 0))).trans (hB9'.mono (below_two (.cells #[.int .i64 0, .int .i64 0, .int .u8 0, .int .i64 0] 40 (0, 0)) (.cells #[.int .i64 n1, .int .i64 0, .int .u8 2, .int .i64 n3] 40 (0, 0))).size)
              obtain ⟨x0, x1, x2, x3, s0, s1, s2, s3⟩ := cells4 ((hB9'.block _ (lt_of_heap (two_new1 w (.cells #[.int .i64 0, .int .i64 0, .int .u8 0, .int .i64 0] 40 (0, 0)) (.cells #[.int .i64 n1, .int .i64 0, .int .u8 2, .int .i64 n3] 40 (0, 0))))).trans (two_new1 w (.cells #[.int .i64 0, .int .i64 0, .int .u8 0, .int .i64 0] 40 (0, 0)) (.cells #[.int .i64 n1, .int .i64 0, .int .u8 2, .int .i64 n3] 40 (0, 0))))
              obtain ⟨y0, y1, y2, y3, -, -, -, -⟩ := cells4 ((hB9'.block _ (lt_of_heap (two_new2 w (.cells #[.int .i64 0, .int .i64 0, .int .u8 0, .int .i64 0] 40 (0, 0)) (.cells #[.int .i64 n1, .int .i64 0, .int .u8 2, .int .i64 n3] 40 (0, 0))))).trans (two_new2 w (.cells #[.int .i64 0, .int .i64 0, .int .u8 0, .int .i64 0] 40 (0, 0)) (.cells #[.int .i64 n1, .int .i64 0, .int .u8 2, .int .i64 n3] 40 (0, 0))))
              have HBW := Lib.hid hBw
              clear hB9 hB9' hBw
              go_wp2
              refine bodyPost_ret (v := .tuple #[.agg #[.int .i64 0, .int .i64 0, .int .u8 0, .int .i64 0], .int .i64 4]) (by simp [results, Tryz.results44, go_sem, World.cell?_setCell_same', x0, x1, x2, x3]) rfl ⟨by rw [HAA.out]; rfl, ?_⟩
              iterate 4 (refine Below.setCell ?_ (by simp) _)
              exact HBW.out
          · have g61 : ((c.toNat : Int) == 61) = false := by rw [beq_eq_false_iff_ne]; exact fun e => hc61 (UInt8.toNat_inj.1 (show c.toNat = 61 by omega))
            by_cases hc33 : c = 33
            · subst hc33
              rw [show Ar.refKind 33 = 3 from rfl] at hps
              have HTX := Lib.hid (fun W => refText_any ⟨n1, 0, 3, n3⟩ ⟨hb1.1, hb1.2, by show _ ≤ (0 : Int); omega, by show (0 : Int) ≤ _; omega, hb3.1, hb3.2⟩ W)
              have HFC := Lib.hid (fits_cases s ⟨n1, 0, 3, n3⟩)
              rw [← hps] at HFC
              simp only at HTX
              clear hps hb1 hb3
              go_wp2_with (go_at_call 99; refine (HD3.out _).mono ?_; rintro e w3 ⟨rfl, hw3⟩; subst hw3)
              rcases HFC.out with ⟨hA, hT⟩ | ⟨hA, hT | ⟨hT, hU⟩⟩
              · have HAA := Lib.hid hA
                rw [hT] at HTX
                clear hA HFC hT
                refine (HTX.out _).mono ?_
                rintro e w9 ⟨rfl, hB9⟩
                have hB9' : Below ((w.alloc (.cells #[.int .i64 0, .int .i64 0, .int .u8 0, .int .i64 0] 40 (0, 0))).alloc (.cells #[.int .i64 n1, .int .i64 0, .int .u8 3, .int .i64 n3] 40 (0, 0))).heap.size ((w.alloc (.cells #[.int .i64 0, .int .i64 0, .int .u8 0, .int .i64 0] 40 (0, 0))).alloc (.cells #[.int .i64 n1, .int .i64 0, .int .u8 3, .int .i64 n3] 40 (0, 0))) w9 := ⟨hB9.os, hB9.tape, hB9.output, hB9.size, hB9.block⟩
                have hBw : Below w.heap.size w w9 := (below_two (.cells #[.int .i64 0, .int .i64 0, .int .u8 0, .int .i64 0] 40 (0, 0)) (.cells #[.int .i64 n1, .int .i64 0, .int .u8 3, .int .i64 n3] 40 (0, 0))).trans (hB9'.mono (below_two (.cells #[.int .i64 0, .int .i64 0, .int .u8 0, .int .i64 0] 40 (0, 0)) (.cells #[.int .i64 n1, .int .i64 0, .int .u8 3, .int .i64 n3] 40 (0, 0))).size)
                obtain ⟨x0, x1, x2, x3, s0, s1, s2, s3⟩ := cells4 ((hB9'.block _ (lt_of_heap (two_new1 w (.cells #[.int .i64 0, .int .i64 0, .int .u8 0, .int .i64 0] 40 (0, 0)) (.cells #[.int .i64 n1, .int .i64 0, .int .u8 3, .int .i64 n3] 40 (0, 0))))).trans (two_new1 w (.cells #[.int .i64 0, .int .i64 0, .int .u8 0, .int .i64 0] 40 (0, 0)) (.cells #[.int .i64 n1, .int .i64 0, .int .u8 3, .int .i64 n3] 40 (0, 0))))
                obtain ⟨y0, y1, y2, y3, -, -, -, -⟩ := cells4 ((hB9'.block _ (lt_of_heap (two_new2 w (.cells #[.int .i64 0, .int .i64 0, .int .u8 0, .int .i64 0] 40 (0, 0)) (.cells #[.int .i64 n1, .int .i64 0, .int .u8 3, .int .i64 n3] 40 (0, 0))))).trans (two_new2 w (.cells #[.int .i64 0, .int .i64 0, .int .u8 0, .int .i64 0] 40 (0, 0)) (.cells #[.int .i64 n1, .int .i64 0, .int .u8 3, .int .i64 n3] 40 (0, 0))))
                have HBW := Lib.hid hBw
                clear hB9 hB9' hBw
                go_wp2
                refine bodyPost_ret (v := .tuple #[.agg #[.int .i64 n1, .int .i64 0, .int .u8 3, .int .i64 n3], .int .i64 0]) (by simp [results, Tryz.results44, go_sem, World.cell?_setCell_same', x0, x1, x2, x3]) rfl ⟨by rw [HAA.out]; rfl, ?_⟩
                iterate 4 (refine Below.setCell ?_ (by simp) _)
                exact HBW.out
              · have HAA := Lib.hid hA
                generalize (Ar.textRes ⟨n1, 0, 3, n3⟩).1 = T1 at *
                generalize (Ar.textRes ⟨n1, 0, 3, n3⟩).2 = T2 at *
                have hne : ((T2 : Int) != 0) = true := by rw [bne_iff_ne]; omega
                clear hA HFC hT
                refine (HTX.out _).mono ?_
                rintro e w9 ⟨rfl, hB9⟩
                have hB9' : Below ((w.alloc (.cells #[.int .i64 0, .int .i64 0, .int .u8 0, .int .i64 0] 40 (0, 0))).alloc (.cells #[.int .i64 n1, .int .i64 0, .int .u8 3, .int .i64 n3] 40 (0, 0))).heap.size ((w.alloc (.cells #[.int .i64 0, .int .i64 0, .int .u8 0, .int .i64 0] 40 (0, 0))).alloc (.cells #[.int .i64 n1, .int .i64 0, .int .u8 3, .int .i64 n3] 40 (0, 0))) w9 := ⟨hB9.os, hB9.tape, hB9.output, hB9.size, hB9.block⟩
                have hBw : Below w.heap.size w w9 := (below_two (.cells #[.int .i64 0, .int .i64 0, .int .u8 0, .int .i64 0] 40 (0, 0)) (.cells #[.int .i64 n1, .int .i64 0, .int .u8 3, .int .i64 n3] 40 (0, 0))).trans (hB9'.mono (below_two (.cells #[.int .i64 0, .int .i64 0, .int .u8 0, .int .i64 0] 40 (0, 0)) (.cells #[.int .i64 n1, .int .i64 0, .int .u8 3, .int .i64 n3] 40 (0, 0))).size)
                obtain ⟨x0, x1, x2, x3, s0, s1, s2, s3⟩ := cells4 ((hB9'.block _ (lt_of_heap (two_new1 w (.cells #[.int .i64 0, .int .i64 0, .int .u8 0, .int .i64 0] 40 (0, 0)) (.cells #[.int .i64 n1, .int .i64 0, .int .u8 3, .int .i64 n3] 40 (0, 0))))).trans (two_new1 w (.cells #[.int .i64 0, .int .i64 0, .int .u8 0, .int .i64 0] 40 (0, 0)) (.cells #[.int .i64 n1, .int .i64 0, .int .u8 3, .int .i64 n3] 40 (0, 0))))
                obtain ⟨y0, y1, y2, y3, -, -, -, -⟩ := cells4 ((hB9'.block _ (lt_of_heap (two_new2 w (.cells #[.int .i64 0, .int .i64 0, .int .u8 0, .int .i64 0] 40 (0, 0)) (.cells #[.int .i64 n1, .int .i64 0, .int .u8 3, .int .i64 n3] 40 (0, 0))))).trans (two_new2 w (.cells #[.int .i64 0, .int .i64 0, .int .u8 0, .int .i64 0] 40 (0, 0)) (.cells #[.int .i64 n1, .int .i64 0, .int .u8 3, .int .i64 n3] 40 (0, 0))))
                have HBW := Lib.hid hBw
                clear hB9 hB9' hBw
                go_wp2
                refine bodyPost_ret (v := .tuple #[.agg #[.int .i64 0, .int .i64 0, .int .u8 0, .int .i64 0], .int .i64 4]) (by simp [results, Tryz.results44, go_sem, World.cell?_setCell_same', x0, x1, x2, x3]) rfl ⟨by rw [HAA.out]; rfl, ?_⟩
                iterate 4 (refine Below.setCell ?_ (by simp) _)
                exact HBW.out
              · have HAA := Lib.hid hA
                generalize (Ar.textRes ⟨n1, 0, 3, n3⟩).1 = T1 at *
                generalize (Ar.textRes ⟨n1, 0, 3, n3⟩).2 = T2 at *
                subst hT
                have hne := bytes_ne hU
                clear hA HFC hU
                refine (HTX.out _).mono ?_
                rintro e w9 ⟨rfl, hB9⟩
                have hB9' : Below ((w.alloc (.cells #[.int .i64 0, .int .i64 0, .int .u8 0, .int .i64 0] 40 (0, 0))).alloc (.cells #[.int .i64 n1, .int .i64 0, .int .u8 3, .int .i64 n3] 40 (0, 0))).heap.size ((w.alloc (.cells #[.int .i64 0, .int .i64 0, .int .u8 0, .int .i64 0] 40 (0, 0))).alloc (.cells #[.int .i64 n1, .int .i64 0, .int .u8 3, .int .i64 n3] 40 (0, 0))) w9 := ⟨hB9.os, hB9.tape, hB9.output, hB9.size, hB9.block⟩
                have hBw : Below w.heap.size w w9 := (below_two (.cells #[.int .i64 0, .int .i64 0, .int .u8 0, .int .i64 0] 40 (0, 0)) (.cells #[.int .i64 n1, .int .i64 0, .int .u8 3, .int .i64 n3] 40 (0, 0))).trans (hB9'.mono (below_two (.cells #[.int .i64 0, .int .i64 0, .int .u8 0, .int .i64 0] 40 (0, 0)) (.cells #[.int .i64 n1, .int .i64 0, .int .u8 3, .int .i64 n3] 40 (0, 0))).size)
                obtain ⟨x0, x1, x2, x3, s0, s1, s2, s3⟩ := cells4 ((hB9'.block _ (lt_of_heap (two_new1 w (.cells #[.int .i64 0, .int .i64 0, .int .u8 0, .int .i64 0] 40 (0, 0)) (.cells #[.int .i64 n1, .int .i64 0, .int .u8 3, .int .i64 n3] 40 (0, 0))))).trans (two_new1 w (.cells #[.int .i64 0, .int .i64 0, .int .u8 0, .int .i64 0] 40 (0, 0)) (.cells #[.int .i64 n1, .int .i64 0, .int .u8 3, .int .i64 n3] 40 (0, 0))))
                obtain ⟨y0, y1, y2, y3, -, -, -, -⟩ := cells4 ((hB9'.block _ (lt_of_heap (two_new2 w (.cells #[.int .i64 0, .int .i64 0, .int .u8 0, .int .i64 0] 40 (0, 0)) (.cells #[.int .i64 n1, .int .i64 0, .int .u8 3, .int .i64 n3] 40 (0, 0))))).trans (two_new2 w (.cells #[.int .i64 0, .int .i64 0, .int .u8 0, .int .i64 0] 40 (0, 0)) (.cells #[.int .i64 n1, .int .i64 0, .int .u8 3, .int .i64 n3] 40 (0, 0))))
                have HBW := Lib.hid hBw
                clear hB9 hB9' hBw
                go_wp2
                refine bodyPost_ret (v := .tuple #[.agg #[.int .i64 0, .int .i64 0, .int .u8 0, .int .i64 0], .int .i64 4]) (by simp [results, Tryz.results44, go_sem, World.cell?_setCell_same', x0, x1, x2, x3]) rfl ⟨by rw [HAA.out]; rfl, ?_⟩
                iterate 4 (refine Below.setCell ?_ (by simp) _)
                exact HBW.out
            · have g33 : ((c.toNat : Int) == 33) = false := by rw [beq_eq_false_iff_ne]; exact fun e => hc33 (UInt8.toNat_inj.1 (show c.toNat = 33 by omega))
              rw [show Ar.refKind c = 0 by unfold Ar.refKind; rw [if_neg hc63, if_neg hc61, if_neg hc33]] at hps
              clear hc63 hc61 hc33
              have HTX := Lib.hid (fun W => refText_any ⟨n1, 0, 0, n3⟩ ⟨hb1.1, hb1.2, by show _ ≤ (0 : Int); omega, by show (0 : Int) ≤ _; omega, hb3.1, hb3.2⟩ W)
              have HFC := Lib.hid (fits_cases s ⟨n1, 0, 0, n3⟩)
              rw [← hps] at HFC
              simp only at HTX
              clear hps hb1 hb3
              go_wp2_with (go_at_call 99; refine (HD3.out _).mono ?_; rintro e w3 ⟨rfl, hw3⟩; subst hw3)
              rcases HFC.out with ⟨hA, hT⟩ | ⟨hA, hT | ⟨hT, hU⟩⟩
              · have HAA := Lib.hid hA
                rw [hT] at HTX
                clear hA HFC hT
                refine (HTX.out _).mono ?_
                rintro e w9 ⟨rfl, hB9⟩
                have hB9' : Below ((w.alloc (.cells #[.int .i64 0, .int .i64 0, .int .u8 0, .int .i64 0] 40 (0, 0))).alloc (.cells #[.int .i64 n1, .int .i64 0, .int .u8 0, .int .i64 n3] 40 (0, 0))).heap.size ((w.alloc (.cells #[.int .i64 0, .int .i64 0, .int .u8 0, .int .i64 0] 40 (0, 0))).alloc (.cells #[.int .i64 n1, .int .i64 0, .int .u8 0, .int .i64 n3] 40 (0, 0))) w9 := ⟨hB9.os, hB9.tape, hB9.output, hB9.size, hB9.block⟩
                have hBw : Below w.heap.size w w9 := (below_two (.cells #[.int .i64 0, .int .i64 0, .int .u8 0, .int .i64 0] 40 (0, 0)) (.cells #[.int .i64 n1, .int .i64 0, .int .u8 0, .int .i64 n3] 40 (0, 0))).trans (hB9'.mono (below_two (.cells #[.int .i64 0, .int .i64 0, .int .u8 0, .int .i64 0] 40 (0, 0)) (.cells #[.int .i64 n1, .int .i64 0, .int .u8 0, .int .i64 n3] 40 (0, 0))).size)
                obtain ⟨x0, x1, x2, x3, s0, s1, s2, s3⟩ := cells4 ((hB9'.block _ (lt_of_heap (two_new1 w (.cells #[.int .i64 0, .int .i64 0, .int .u8 0, .int .i64 0] 40 (0, 0)) (.cells #[.int .i64 n1, .int .i64 0, .int .u8 0, .int .i64 n3] 40 (0, 0))))).trans (two_new1 w (.cells #[.int .i64 0, .int .i64 0, .int .u8 0, .int .i64 0] 40 (0, 0)) (.cells #[.int .i64 n1, .int .i64 0, .int .u8 0, .int .i64 n3] 40 (0, 0))))
                obtain ⟨y0, y1, y2, y3, -, -, -, -⟩ := cells4 ((hB9'.block _ (lt_of_heap (two_new2 w (.cells #[.int .i64 0, .int .i64 0, .int .u8 0, .int .i64 0] 40 (0, 0)) (.cells #[.int .i64 n1, .int .i64 0, .int .u8 0, .int .i64 n3] 40 (0, 0))))).trans (two_new2 w (.cells #[.int .i64 0, .int .i64 0, .int .u8 0, .int .i64 0] 40 (0, 0)) (.cells #[.int .i64 n1, .int .i64 0, .int .u8 0, .int .i64 n3] 40 (0, 0))))
                have HBW := Lib.hid hBw
                clear hB9 hB9' hBw
                go_wp2
                refine bodyPost_ret (v := .tuple #[.agg #[.int .i64 n1, .int .i64 0, .int .u8 0, .int .i64 n3], .int .i64 0]) (by simp [results, Tryz.results44, go_sem, World.cell?_setCell_same', x0, x1, x2, x3]) rfl ⟨by rw [HAA.out]; rfl, ?_⟩
                iterate 4 (refine Below.setCell ?_ (by simp) _)
                exact HBW.out
              · have HAA := Lib.hid hA
                generalize (Ar.textRes ⟨n1, 0, 0, n3⟩).1 = T1 at *
                generalize (Ar.textRes ⟨n1, 0, 0, n3⟩).2 = T2 at *
                have hne : ((T2 : Int) != 0) = true := by rw [bne_iff_ne]; omega
                clear hA HFC hT
                refine (HTX.out _).mono ?_
                rintro e w9 ⟨rfl, hB9⟩
                have hB9' : Below ((w.alloc (.cells #[.int .i64 0, .int .i64 0, .int .u8 0, .int .i64 0] 40 (0, 0))).alloc (.cells #[.int .i64 n1, .int .i64 0, .int .u8 0, .int .i64 n3] 40 (0, 0))).heap.size ((w.alloc (.cells #[.int .i64 0, .int .i64 0, .int .u8 0, .int .i64 0] 40 (0, 0))).alloc (.cells #[.int .i64 n1, .int .i64 0, .int .u8 0, .int .i64 n3] 40 (0, 0))) w9 := ⟨hB9.os, hB9.tape, hB9.output, hB9.size, hB9.block⟩
                have hBw : Below w.heap.size w w9 := (below_two (.cells #[.int .i64 0, .int .i64 0, .int .u8 0, .int .i64 0] 40 (0, 0)) (.cells #[.int .i64 n1, .int .i64 0, .int .u8 0, .int .i64 n3] 40 (0, 0))).trans (hB9'.mono (below_two (.cells #[.int .i64 0, .int .i64 0, .int .u8 0, .int .i64 0] 40 (0, 0)) (.cells #[.int .i64 n1, .int .i64 0, .int .u8 0, .int .i64 n3] 40 (0, 0))).size)
                obtain ⟨x0, x1, x2, x3, s0, s1, s2, s3⟩ := cells4 ((hB9'.block _ (lt_of_heap (two_new1 w (.cells #[.int .i64 0, .int .i64 0, .int .u8 0, .int .i64 0] 40 (0, 0)) (.cells #[.int .i64 n1, .int .i64 0, .int .u8 0, .int .i64 n3] 40 (0, 0))))).trans (two_new1 w (.cells #[.int .i64 0, .int .i64 0, .int .u8 0, .int .i64 0] 40 (0, 0)) (.cells #[.int .i64 n1, .int .i64 0, .int .u8 0, .int .i64 n3] 40 (0, 0))))
                obtain ⟨y0, y1, y2, y3, -, -, -, -⟩ := cells4 ((hB9'.block _ (lt_of_heap (two_new2 w (.cells #[.int .i64 0, .int .i64 0, .int .u8 0, .int .i64 0] 40 (0, 0)) (.cells #[.int .i64 n1, .int .i64 0, .int .u8 0, .int .i64 n3] 40 (0, 0))))).trans (two_new2 w (.cells #[.int .i64 0, .int .i64 0, .int .u8 0, .int .i64 0] 40 (0, 0)) (.cells #[.int .i64 n1, .int .i64 0, .int .u8 0, .int .i64 n3] 40 (0, 0))))
                have HBW := Lib.hid hBw
                clear hB9 hB9' hBw
                go_wp2
                refine bodyPost_ret (v := .tuple #[.agg #[.int .i64 0, .int .i64 0, .int .u8 0, .int .i64 0], .int .i64 4]) (by simp [results, Tryz.results44, go_sem, World.cell?_setCell_same', x0, x1, x2, x3]) rfl ⟨by rw [HAA.out]; rfl, ?_⟩
                iterate 4 (refine Below.setCell ?_ (by simp) _)
                exact HBW.out
              · have HAA := Lib.hid hA
                generalize (Ar.textRes ⟨n1, 0, 0, n3⟩).1 = T1 at *
                generalize (Ar.textRes ⟨n1, 0, 0, n3⟩).2 = T2 at *
                subst hT
                have hne := bytes_ne hU
                clear hA HFC hU
                refine (HTX.out _).mono ?_
                rintro e w9 ⟨rfl, hB9⟩
                have hB9' : Below ((w.alloc (.cells #[.int .i64 0, .int .i64 0, .int .u8 0, .int .i64 0] 40 (0, 0))).alloc (.cells #[.int .i64 n1, .int .i64 0, .int .u8 0, .int .i64 n3] 40 (0, 0))).heap.size ((w.alloc (.cells #[.int .i64 0, .int .i64 0, .int .u8 0, .int .i64 0] 40 (0, 0))).alloc (.cells #[.int .i64 n1, .int .i64 0, .int .u8 0, .int .i64 n3] 40 (0, 0))) w9 := ⟨hB9.os, hB9.tape, hB9.output, hB9.size, hB9.block⟩
                have hBw : Below w.heap.size w w9 := (below_two (.cells #[.int .i64 0, .int .i64 0, .int .u8 0, .int .i64 0] 40 (0, 0)) (.cells #[.int .i64 n1, .int .i64 0, .int .u8 0, .int .i64 n3] 40 (0, 0))).trans (hB9'.mono (below_two (.cells #[.int .i64 0, .int .i64 0, .int .u8 0, .int .i64 0] 40 (0, 0)) (.cells #[.int .i64 n1, .int .i64 0, .int .u8 0, .int .i64 n3] 40 (0, 0))).size)
                obtain ⟨x0, x1, x2, x3, s0, s1, s2, s3⟩ := cells4 ((hB9'.block _ (lt_of_heap (two_new1 w (.cells #[.int .i64 0, .int .i64 0, .int .u8 0, .int .i64 0] 40 (0, 0)) (.cells #[.int .i64 n1, .int .i64 0, .int .u8 0, .int .i64 n3] 40 (0, 0))))).trans (two_new1 w (.cells #[.int .i64 0, .int .i64 0, .int .u8 0, .int .i64 0] 40 (0, 0)) (.cells #[.int .i64 n1, .int .i64 0, .int .u8 0, .int .i64 n3] 40 (0, 0))))
                obtain ⟨y0, y1, y2, y3, -, -, -, -⟩ := cells4 ((hB9'.block _ (lt_of_heap (two_new2 w (.cells #[.int .i64 0, .int .i64 0, .int .u8 0, .int .i64 0] 40 (0, 0)) (.cells #[.int .i64 n1, .int .i64 0, .int .u8 0, .int .i64 n3] 40 (0, 0))))).trans (two_new2 w (.cells #[.int .i64 0, .int .i64 0, .int .u8 0, .int .i64 0] 40 (0, 0)) (.cells #[.int .i64 n1, .int .i64 0, .int .u8 0, .int .i64 n3] 40 (0, 0))))
                have HBW := Lib.hid hBw
                clear hB9 hB9' hBw
                go_wp2
                refine bodyPost_ret (v := .tuple #[.agg #[.int .i64 0, .int .i64 0, .int .u8 0, .int .i64 0], .int .i64 4]) (by simp [results, Tryz.results44, go_sem, World.cell?_setCell_same', x0, x1, x2, x3]) rfl ⟨by rw [HAA.out]; rfl, ?_⟩
                iterate 4 (refine Below.setCell ?_ (by simp) _)
                exact HBW.out
end Go.Proofs.YtbfpgjnagpcbeaaGreatDoor
