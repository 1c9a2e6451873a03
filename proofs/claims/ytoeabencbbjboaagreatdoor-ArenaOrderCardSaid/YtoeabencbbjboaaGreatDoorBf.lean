/-
  WALKS: a text cut at a byte; a move read loosely.
-/
import Derived.Test.YtoeabencbbjboaaGreatDoorBe
import Derived.Lib.IndexLaws
import Derived.BigQuiet
namespace Go.Proofs.YtoeabencbbjboaaGreatDoor
open Go.RowKit Go.MapKept Go.Shelf

theorem drewN_below {b : Nat} {w W : World} (h : Below b w W) : ∀ n, Below b w (W.drewN n)
  | 0 => h
  | n + 1 => (drewN_below h n).drew
theorem cutOf_none {s : ByteArray} {c : UInt8} (h : ¬ 0 ≤ Lib.indexByte s.data.toList c) : cutOf s c = (s, ⟨#[]⟩) := by unfold cutOf; rw [if_neg h]
theorem cutOf_some {s : ByteArray} {c : UInt8} {o : Nat} (h : Lib.indexByte s.data.toList c = (o : Int)) : cutOf s c = (s.extract 0 o, s.extract (o + 1) s.size) := by
  unfold cutOf; rw [if_pos (by omega), h]; rfl
theorem index_lt {s : ByteArray} {c : UInt8} {o : Nat} (h : Lib.indexByte s.data.toList c = (o : Int)) : o < s.size := by
  have := (Lib.indexByte_some h).1
  obtain ⟨h1, _⟩ := List.getElem?_eq_some_iff.1 this
  simpa using h1
theorem cut_size (s : ByteArray) (c : UInt8) : (cutOf s c).1.size ≤ s.size ∧ (cutOf s c).2.size ≤ s.size := by
  unfold cutOf
  split
  · simp only [ByteArray.size_extract]; omega
  · exact ⟨Nat.le_refl _, Nat.zero_le _⟩

set_option maxRecDepth 100000 in
set_option maxHeartbeats 4000000 in
theorem cutlite_any (s : ByteArray) (c : UInt8) (hs : s.size ≤ 281474976710656) (w : World) : Calls Tryz.prog 140 #[.string s, .string ⟨#[c]⟩] w fun e w' =>
    e = .returned (.tuple #[.string (cutOf s c).1, .string (cutOf s c).2, .bool (decide (0 ≤ Lib.indexByte s.data.toList c))]) ∧ Below w.heap.size w w' := by
  have HI := Lib.hid (fun W => Tryz.stringslite_Index_one s c W)
  have hg := Lib.indexByte_ge s.data.toList c
  by_cases h : 0 ≤ Lib.indexByte s.data.toList c
  · obtain ⟨o, ho⟩ := Int.eq_ofNat_of_zero_le h
    have hlt := index_lt ho
    have HC := Lib.hid (cutOf_some ho)
    rw [ho] at HI ⊢
    have b0 : (0 : Int) ≤ (o : Int) := by omega
    have b1 : (o : Int) ≤ (s.size : Int) := by omega
    have b2 : (o : Int) + 1 ≤ (s.size : Int) := by omega
    have b3 : (0 : Int) ≤ (o : Int) + 1 := by omega
    have hw1 : IntKind.i64.wrap ((o : Int) + 1) = (o : Int) + 1 := IntWalk.i64_in _ (by omega)
    have hd : decide ((0 : Int) ≤ (o : Int)) = true := decide_eq_true b0
    have hone : (⟨#[c]⟩ : ByteArray).size = 1 := rfl
    clear h hg ho
    go_enter Tryz.func140, Tryz.ntmps140
    go_wp2_with (go_at_call 153; refine (HI.out _).mono ?_; rintro e w2 ⟨rfl, rfl⟩)
    go_quiet (fail)
    go_wp2
    refine bodyPost_ret (v := .tuple #[.string (s.extract 0 o), .string (s.extract (o + 1) s.size), .bool true]) (by simp [results, Tryz.results140, go_sem]) rfl ⟨by rw [HC.out, hd], ?_⟩
    exact drewN_below (Below.refl _ _) _
  · have HC := Lib.hid (cutOf_none h)
    have he : Lib.indexByte s.data.toList c = -1 := by omega
    have hd : decide (0 ≤ Lib.indexByte s.data.toList c) = false := decide_eq_false h
    rw [he] at HI hd ⊢
    clear h hg he
    go_enter Tryz.func140, Tryz.ntmps140
    go_wp2_with (go_at_call 153; refine (HI.out _).mono ?_; rintro e w2 ⟨rfl, rfl⟩)
    refine bodyPost_ret (v := .tuple #[.string s, .string ⟨#[]⟩, .bool false]) (by simp [results, Tryz.results140, go_sem]) rfl ⟨by rw [HC.out, hd], Below.refl _ _⟩

set_option maxRecDepth 100000 in
set_option maxHeartbeats 4000000 in
theorem cut_any (s : ByteArray) (c : UInt8) (hs : s.size ≤ 281474976710656) (w : World) : Calls Tryz.prog 125 #[.string s, .string ⟨#[c]⟩] w fun e w' =>
    (∃ b, e = .returned (.tuple #[.string (cutOf s c).1, .string (cutOf s c).2, .bool b])) ∧ Below w.heap.size w w' := by
  have HI := Lib.hid (fun W => cutlite_any s c hs W)
  generalize (cutOf s c).1 = x at *
  generalize (cutOf s c).2 = y at *
  generalize decide (0 ≤ Lib.indexByte s.data.toList c) = b at *
  go_enter Tryz.func125, Tryz.ntmps125
  go_wp2_with (go_at_call 140; refine (HI.out _).mono ?_; rintro e w2 ⟨rfl, hB2⟩)
  exact bodyPost_ret (v := .tuple #[.string x, .string y, .bool b]) (by simp [results, Tryz.results125, go_sem]) rfl ⟨⟨b, rfl⟩, hB2⟩

theorem beq_bytes (a b : ByteArray) : (a == b) = decide (a = b) := by
  obtain ⟨a⟩ := a; obtain ⟨b⟩ := b
  show (a == b) = _
  by_cases h : a = b <;> simp [h]
def readMv (s : ByteArray) (kind : Int) (c : UInt8) : Ar.Mv := ⟨Ar.numOf (cutOf (cutOf s c).1 46).1, Ar.numOf (cutOf (cutOf s c).1 46).2, kind, if (cutOf s c).2 = ⟨#[42]⟩ then -1 else Ar.numOf (cutOf s c).2⟩
set_option maxRecDepth 100000 in
set_option maxHeartbeats 4000000 in
theorem readMove_any (s : ByteArray) (kind : Int) (c : UInt8) (hs : s.size ≤ 281474976710656) (w : World) (hG : GV w) : Calls Tryz.prog 97 #[.string s, .int .u8 kind, .string ⟨#[c]⟩] w fun e w' =>
    e = .returned (mvV (readMv s kind c)) ∧ Below w.heap.size w w' := by
  obtain ⟨z1, z2⟩ := cut_size s c
  obtain ⟨z3, z4⟩ := cut_size (cutOf s c).1 46
  have HC1 := Lib.hid (fun W => cut_any s c hs W)
  have HC2 := Lib.hid (fun W => cut_any (cutOf s c).1 46 (by omega) W)
  have HN1 := Lib.hid (fun W (hB : Below w.heap.size w W) => readNumber_any (cutOf (cutOf s c).1 46).1 (by omega) W (hG.below hB))
  have HN2 := Lib.hid (fun W (hB : Below w.heap.size w W) => readNumber_any (cutOf (cutOf s c).1 46).2 (by omega) W (hG.below hB))
  have HN3 := Lib.hid (fun W (hB : Below w.heap.size w W) => readNumber_any (cutOf s c).2 (by omega) W (hG.below hB))
  have HR : Hid (readMv s kind c = ⟨Ar.numOf (cutOf (cutOf s c).1 46).1, Ar.numOf (cutOf (cutOf s c).1 46).2, kind, if (cutOf s c).2 = ⟨#[42]⟩ then -1 else Ar.numOf (cutOf s c).2⟩) := rfl
  generalize Ar.numOf (cutOf (cutOf s c).1 46).1 = id at *
  generalize Ar.numOf (cutOf (cutOf s c).1 46).2 = arg at *
  generalize Ar.numOf (cutOf s c).2 = val at *
  generalize (cutOf (cutOf s c).1 46).1 = sid at *
  generalize (cutOf (cutOf s c).1 46).2 = sarg at *
  generalize (cutOf s c).1 = sat at *
  generalize (cutOf s c).2 = sval at *
  have hB0 : Below w.heap.size w (w.alloc (.cells #[.int .i64 0, .int .i64 0, .int .u8 0, .int .i64 0] 40 (0, 0))) := (Below.refl _ _).alloc (Nat.le_refl _) _
  have j0 := Lib.hid (World.alloc_heap_new w (.cells #[.int .i64 0, .int .i64 0, .int .u8 0, .int .i64 0] 40 (0, 0)))
  clear z1 z2 z3 z4 hG
  by_cases hv : sval = ⟨#[42]⟩
  · have HR2 : Hid (mvV (readMv s kind c) = .agg #[.int .i64 id, .int .i64 arg, .int .u8 kind, .int .i64 (-1)]) := by rw [Hid, HR.out, if_pos hv]; rfl
    subst hv
    clear HR
    go_enter Tryz.func97, Tryz.ntmps97
    go_wp2_with (first
      | (go_at_call 126; refine (HN3.out _ hBw5).mono ?_; rintro e w6 ⟨rfl, hB6⟩; have hBw6 := hBw5.trans (hB6.mono hBw5.size); have j6 := Lib.hid ((hB6.block _ (lt_of_heap j5.out)).trans j5.out); have hBw7 := hBw6.alloc hBw6.size (.cells #[.int .i64 id, .int .i64 arg, .int .u8 kind, .int .i64 (-1)] 40 (0, 0)); have j7 := Lib.hid ((Below.heap_alloc w6 (.cells #[.int .i64 id, .int .i64 arg, .int .u8 kind, .int .i64 (-1)] 40 (0, 0)) _ (lt_of_heap j6.out)).trans j6.out); obtain ⟨r0, r1, r2, r3, s0, s1, s2, s3⟩ := cells4 j7.out; have n1 : w6.heap.size ≠ w.heap.size := by have := lt_of_heap j6.out; omega)
      | (go_at_call 126; refine (HN2.out _ hBw4).mono ?_; rintro e w5 ⟨rfl, hB5⟩; have hBw5 := hBw4.trans (hB5.mono hBw4.size); have j5 := Lib.hid ((hB5.block _ (lt_of_heap j4.out)).trans j4.out))
      | (go_at_call 126; refine (HN1.out _ hBw3).mono ?_; rintro e w4 ⟨rfl, hB4⟩; have hBw4 := hBw3.trans (hB4.mono hBw3.size); have j4 := Lib.hid ((hB4.block _ (lt_of_heap j3.out)).trans j3.out))
      | (go_at_call 125; have _t := hBw2; refine (HC2.out _).mono ?_; rintro e w3 ⟨⟨b3, rfl⟩, hB3⟩; have hBw3 := hBw2.trans (hB3.mono hBw2.size); have j3 := Lib.hid ((hB3.block _ (lt_of_heap j2.out)).trans j2.out))
      | (go_at_call 125; refine (HC1.out _).mono ?_; rintro e w2 ⟨⟨b2, rfl⟩, hB2⟩; have hBw2 := hB0.trans (hB2.mono hB0.size); have j2 := Lib.hid ((hB2.block _ (lt_of_heap j0.out)).trans j0.out)))
    refine bodyPost_ret (v := .agg #[.int .i64 id, .int .i64 arg, .int .u8 kind, .int .i64 (-1)]) (by simp [results, Tryz.results97, go_sem, World.cell?_setCell_same', r0, r1, r2, r3]) rfl ⟨by rw [HR2.out], ?_⟩
    iterate 4 (refine Below.setCell ?_ (by simp) _)
    exact hBw7
  · have HR2 : Hid (mvV (readMv s kind c) = .agg #[.int .i64 id, .int .i64 arg, .int .u8 kind, .int .i64 val]) := by rw [Hid, HR.out, if_neg hv]; rfl
    have e1 : (sval.toList == [42]) = false := by
      rw [beq_eq_false_iff_ne, ByteArray.toList_eq]
      intro h
      exact hv (by apply ByteArray.ext; apply Array.toList_inj.1; simpa using h)
    clear HR hv
    go_enter Tryz.func97, Tryz.ntmps97
    go_wp2_with (first
      | (go_at_call 126; refine (HN3.out _ hBw5).mono ?_; rintro e w6 ⟨rfl, hB6⟩; have hBw6 := hBw5.trans (hB6.mono hBw5.size); have j6 := Lib.hid ((hB6.block _ (lt_of_heap j5.out)).trans j5.out); have hBw7 := hBw6.alloc hBw6.size (.cells #[.int .i64 id, .int .i64 arg, .int .u8 kind, .int .i64 val] 40 (0, 0)); have j7 := Lib.hid ((Below.heap_alloc w6 (.cells #[.int .i64 id, .int .i64 arg, .int .u8 kind, .int .i64 val] 40 (0, 0)) _ (lt_of_heap j6.out)).trans j6.out); obtain ⟨r0, r1, r2, r3, s0, s1, s2, s3⟩ := cells4 j7.out; have n1 : w6.heap.size ≠ w.heap.size := by have := lt_of_heap j6.out; omega)
      | (go_at_call 126; refine (HN2.out _ hBw4).mono ?_; rintro e w5 ⟨rfl, hB5⟩; have hBw5 := hBw4.trans (hB5.mono hBw4.size); have j5 := Lib.hid ((hB5.block _ (lt_of_heap j4.out)).trans j4.out))
      | (go_at_call 126; refine (HN1.out _ hBw3).mono ?_; rintro e w4 ⟨rfl, hB4⟩; have hBw4 := hBw3.trans (hB4.mono hBw3.size); have j4 := Lib.hid ((hB4.block _ (lt_of_heap j3.out)).trans j3.out))
      | (go_at_call 125; have _t := hBw2; refine (HC2.out _).mono ?_; rintro e w3 ⟨⟨b3, rfl⟩, hB3⟩; have hBw3 := hBw2.trans (hB3.mono hBw2.size); have j3 := Lib.hid ((hB3.block _ (lt_of_heap j2.out)).trans j2.out))
      | (go_at_call 125; refine (HC1.out _).mono ?_; rintro e w2 ⟨⟨b2, rfl⟩, hB2⟩; have hBw2 := hB0.trans (hB2.mono hB0.size); have j2 := Lib.hid ((hB2.block _ (lt_of_heap j0.out)).trans j0.out)))
    refine bodyPost_ret (v := .agg #[.int .i64 id, .int .i64 arg, .int .u8 kind, .int .i64 val]) (by simp [results, Tryz.results97, go_sem, World.cell?_setCell_same', r0, r1, r2, r3]) rfl ⟨by rw [HR2.out], ?_⟩
    iterate 4 (refine Below.setCell ?_ (by simp) _)
    exact hBw7
end Go.Proofs.YtoeabencbbjboaaGreatDoor
