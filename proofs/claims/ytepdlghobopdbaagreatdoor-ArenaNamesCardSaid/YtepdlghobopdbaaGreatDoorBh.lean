/-
  WALKS: Parse.
-/
import Derived.Test.YtepdlghobopdbaaGreatDoorBg
namespace Go.Proofs.YtepdlghobopdbaaGreatDoor
open Go.RowKit Go.MapKept Go.Shelf Go.Maps

def miss (s : ByteArray) (k : Int) : Prop := Ar.textRes (readMv s k (sg k)) ≠ (s, 0)
def ParsePost (s : ByteArray) (e : Ending) : Prop :=
  (∃ k, isKind k ∧ ¬ miss s k ∧ e = .returned (.tuple #[mvV (readMv s k (sg k)), .int .i64 0])) ∨ ((∀ k, isKind k → miss s k) ∧ e = .returned (.tuple #[mvV ⟨0, 0, 0, 0⟩, .int .i64 4]))
def PL (s : ByteArray) (w wr : World) (left : Lit → Bool) : Prop :=
  Below w.heap.size w wr ∧ wr.heap[w.heap.size]? = some (.cells #[.int .i64 0, .int .i64 0, .int .u8 0, .int .i64 0] 37 (0, 0)) ∧ w.heap.size + 3 ≤ wr.heap.size ∧ ∀ k, isKind k → left (.int .u8 k) = false → miss s k

theorem PL.next {s : ByteArray} {w W W' : World} {left : Lit → Bool} (h : PL s w W left) (hB : Below (w.heap.size + 1) W W') : PL s w W' left :=
  ⟨h.1.trans (hB.mono (by omega)), (hB.block _ (by omega)).trans h.2.1, Nat.le_trans h.2.2.1 hB.size, h.2.2.2⟩
theorem PL.strike {s : ByteArray} {w W : World} {left : Lit → Bool} {x : Int} (h : PL s w W left) (hx : miss s x) : PL s w W (fun z => left z && !z.sameKey (.int .u8 x)) :=
  ⟨h.1, h.2.1, h.2.2.1, fun k hk hf => by
    simp only [Bool.and_eq_false_iff, Bool.not_eq_false'] at hf
    rcases hf with hf | hf
    · exact h.2.2.2 k hk hf
    · have : k = x := by simpa [Lit.sameKey] using hf
      rw [this]; exact hx⟩
theorem heap_of_alloc2 {w V : World} {o o' : Obj} (h : V = (w.alloc o).alloc o') : V.heap[w.heap.size + 1]? = some o' := by
  have := heap_of_alloc h
  rwa [show (w.alloc o).heap.size = w.heap.size + 1 from Array.size_push _] at this
set_option maxRecDepth 100000 in
set_option maxHeartbeats 8000000 in
theorem parse_any (s : ByteArray) (hs : s.size ≤ 281474976710656) (w : World) (hG : GV w) (hT : GT w) : Calls Tryz.prog 19 #[.string s] w fun e w' => ParsePost s e ∧ Below w.heap.size w w' := by
  have hB0 : Below w.heap.size w (w.alloc (.cells #[.int .i64 0, .int .i64 0, .int .u8 0, .int .i64 0] 37 (0, 0))) := (Below.refl _ _).alloc (Nat.le_refl _) _
  have j0 := Lib.hid (World.alloc_heap_new w (.cells #[.int .i64 0, .int .i64 0, .int .u8 0, .int .i64 0] 37 (0, 0)))
  have HM := Lib.hid (fun k c W (hB : Below w.heap.size w W) => readMove_any s k c hs W (hG.below hB))
  have HX := Lib.hid (fun k c W (hB : Below w.heap.size w W) => text_any (readMv s k c) W (hT.below hB) (readMv_ok s k c))
  clear hG hT
  go_enter Tryz.func19, Tryz.ntmps19
  go_wp2_with (first
    | (at_range; refine wpList_range_own _ rfl _ 91 rfl 5 9 law5 Tryz.underlying91 (plainElem Tryz.prog 9) (w.heap.size + 1) 3 signD rfl (sign_owns hm1.out) ?_; intro w0 hrg0 hg0 hs0)
    | (go_at_call 51; refine (signs_any _).mono ?_; rintro e w1 ⟨rfl, hw1⟩; have hB1 := hB0.trans ((below_of_alloc hw1).mono hB0.size); have j1 := Lib.hid (((below_of_alloc hw1).block _ (lt_of_heap j0.out)).trans j0.out); have hm1 := Lib.hid (heap_of_alloc2 hw1); have HZ : Hid (w1.heap.size = w.heap.size + 2) := (by rw [Hid, hw1]; exact (Array.size_push _).trans (congrArg (· + 1) (Array.size_push _))); clear hw1)
    | go_in)

  go_frame
  go_loopw [4] (fun _ wr => ∃ (left : Lit → Bool) (cnt : Nat), wr.ranges Tryz.prog 5 (plainElem Tryz.prog 9) (w.heap.size + 1) w1.heap.size 3 signD left cnt ∧ PL s w wr left)
    (fun _ wr => wr.rangeLeft (w.heap.size + 1) w1.heap.size)
  case atStart =>
    have hz1 := HZ.out
    refine ⟨_, _, hrg0, hB1.trans ⟨hg0.os, hg0.tape, hg0.output, hg0.size, fun k hk => hg0.block k (by omega) (by simp)⟩, (hg0.block _ (by omega) (by simp)).trans j1.out, by omega, fun k hk h => ?_⟩
    rw [sign_has hk] at h; cases h
  case round =>
    obtain ⟨left, cnt, hrg, hP⟩ := hrel
    clear hrg0 hg0
    go_wp2_with (first
      | (at_next; refine wpList_next_ranges_is _ rfl _ rfl 5 9 .u8 law5 Tryz.underlying5 Tryz.underlying9 (w.heap.size + 1) w1.heap.size 3 _ _ _ rfl hrg ?_ ?_)
      | go_in)
    · intro hc0 hl0
      have HPost : Hid (∀ k, isKind k → miss s k) := fun k hk => hP.2.2.2 k hk (hl0 _)
      have HB := Lib.hid hP.1
      obtain ⟨r0, r1, r2, r3, s0, s1, s2, s3⟩ := cells4 hP.2.1
      clear hP hrg hl0
      go_wp2
      refine bodyPost_ret (v := .tuple #[.agg #[.int .i64 0, .int .i64 0, .int .u8 0, .int .i64 0], .int .i64 4]) (by simp [results, Tryz.results19, go_sem, World.cell?_setCell_same', r0, r1, r2, r3]) rfl ⟨.inr ⟨HPost.out, rfl⟩, ?_⟩
      iterate 4 (first | exact HB.out | refine Below.setCell ?_ (by simp) _)
      try exact HB.out
    · intro x c w2 cnt1 hwx hwc hlx hat hrg1 hlt hg1 hs1 hen
      obtain ⟨hk, rfl⟩ := sign_at hat
      have hP2 := hP.next (below_of_grown (B := w.heap.size + 1) hg1 (by have := hP.2.2.1; omega) (by have := HZ.out; omega))
      have HM1 := HM.out x (sg x) w2 hP2.1
      have HX1 := fun W => HX.out x (sg x) W
      have hmd : miss s x ↔ Ar.textRes (readMv s x (sg x)) ≠ (s, 0) := Iff.rfl
      have hres : ParsePost s (.returned (.tuple #[mvV (readMv s x (sg x)), .int .i64 0])) ∨ miss s x := by
        by_cases hm : miss s x
        · exact .inr hm
        · exact .inl (.inl ⟨x, hk, hm, rfl⟩)
      have HRES := Lib.hid hres
      clear hres
      generalize readMv s x (sg x) = m at *
      unfold mvV at HM1 HX1
      generalize Ar.textRes m = tr at *
      obtain ⟨t, er⟩ := tr
      have HM2 := Lib.hid HM1
      have HX2 := Lib.hid HX1
      have HP2 := Lib.hid hP2
      have HRG := Lib.hid hrg
      have HRG1 := Lib.hid hrg1
      have j2 := Lib.hid hP2.2.1
      have hz2 := hP2.2.2.1
      have hbw2 := hP2.1
      clear HM1 HX1 hP hP2 hrg hrg1 hat HM HX hk hwc hwx hlx hB0 hB1 j0 j1 hm1
      by_cases h0 : er = 0
      · subst h0
        by_cases ht : t = s
        · subst ht
          have HPO : Hid (ParsePost t (.returned (.tuple #[mvV m, .int .i64 0]))) := HRES.out.resolve_right (fun h => hmd.1 h rfl)
          clear HRES hmd
          go_wp2_with (first
            | (go_at_call 20; refine (HX2.out _ hBw4).mono ?_; rintro e w5 ⟨rfl, hB5⟩; have hBc5 := hBc4.trans (hB5.mono hBc4.size); have j5 := Lib.hid ((hB5.block _ (lt_of_heap j4.out)).trans j4.out); have k5 := Lib.hid ((hB5.block _ (lt_of_heap k4.out)).trans k4.out); obtain ⟨r0, r1, r2, r3, s0, s1, s2, s3⟩ := cells4 j5.out; obtain ⟨q0, q1, q2, q3, -, -, -, -⟩ := cells4 k5.out)
            | (go_at_call 52; refine HM2.out.mono ?_; rintro e w3 ⟨rfl, hB3⟩; have hBc4 : Below w2.heap.size w2 (w3.alloc (.cells #[.int .i64 m.id, .int .i64 m.arg, .int .u8 m.kind, .int .i64 m.n] 37 (0, 0))) := hB3.alloc hB3.size _; have hBw4 := hbw2.trans (hBc4.mono hbw2.size); have j4 := Lib.hid ((hBc4.block _ (lt_of_heap j2.out)).trans j2.out); have k4 := Lib.hid (World.alloc_heap_new w3 (.cells #[.int .i64 m.id, .int .i64 m.arg, .int .u8 m.kind, .int .i64 m.n] 37 (0, 0))); have n1 : w3.heap.size ≠ w.heap.size := by have := hB3.size; omega)
            | go_in)
          refine bodyPost_ret (v := .tuple #[.agg #[.int .i64 m.id, .int .i64 m.arg, .int .u8 m.kind, .int .i64 m.n], .int .i64 0]) (by simp [results, Tryz.results19, go_sem, World.cell?_setCell_same', r0, r1, r2, r3]) rfl ⟨HPO.out, ?_⟩
          iterate 4 (refine Below.setCell ?_ (by simp) _)
          exact hbw2.trans (hBc5.mono hbw2.size)
        · have HMS : Hid (miss s x) := hmd.2 (fun h => ht (congrArg Prod.fst h))
          have e1 : (t.toList == s.toList) = false := by
            rw [beq_eq_false_iff_ne, ByteArray.toList_eq, ByteArray.toList_eq]
            intro h
            exact ht (by apply ByteArray.ext; apply Array.toList_inj.1; exact h)
          clear HRES hmd ht
          go_wp2_with (first
            | (go_at_call 20; refine (HX2.out _ hBw4).mono ?_; rintro e w5 ⟨rfl, hB5⟩; have hBc5 := hBc4.trans (hB5.mono hBc4.size); have j5 := Lib.hid ((hB5.block _ (lt_of_heap j4.out)).trans j4.out); have k5 := Lib.hid ((hB5.block _ (lt_of_heap k4.out)).trans k4.out); obtain ⟨r0, r1, r2, r3, s0, s1, s2, s3⟩ := cells4 j5.out; obtain ⟨q0, q1, q2, q3, -, -, -, -⟩ := cells4 k5.out)
            | (go_at_call 52; refine HM2.out.mono ?_; rintro e w3 ⟨rfl, hB3⟩; have hBc4 : Below w2.heap.size w2 (w3.alloc (.cells #[.int .i64 m.id, .int .i64 m.arg, .int .u8 m.kind, .int .i64 m.n] 37 (0, 0))) := hB3.alloc hB3.size _; have hBw4 := hbw2.trans (hBc4.mono hbw2.size); have j4 := Lib.hid ((hBc4.block _ (lt_of_heap j2.out)).trans j2.out); have k4 := Lib.hid (World.alloc_heap_new w3 (.cells #[.int .i64 m.id, .int .i64 m.arg, .int .u8 m.kind, .int .i64 m.n] 37 (0, 0))); have n1 : w3.heap.size ≠ w.heap.size := by have := hB3.size; omega)
            | go_in)
          go_roundw
          case rel => exact ⟨_, cnt1, ranges_keep HRG1.out hBc5 (by omega) (by have := HZ.out; omega), (HP2.out.next (hBc5.mono (by omega))).strike (HMS.out)⟩
          case measure => rw [(ranges_keep HRG1.out hBc5 (by omega) (by have := HZ.out; omega)).left_eq, HRG.out.left_eq]; exact hlt
      · have HMS : Hid (miss s x) := hmd.2 (fun h => h0 (congrArg Prod.snd h))
        have e2 : ((er : Int) == 0) = false := by rw [beq_eq_false_iff_ne]; omega
        clear HRES hmd h0
        go_wp2_with (first
          | (go_at_call 20; refine (HX2.out _ hBw4).mono ?_; rintro e w5 ⟨rfl, hB5⟩; have hBc5 := hBc4.trans (hB5.mono hBc4.size); have j5 := Lib.hid ((hB5.block _ (lt_of_heap j4.out)).trans j4.out); have k5 := Lib.hid ((hB5.block _ (lt_of_heap k4.out)).trans k4.out); obtain ⟨r0, r1, r2, r3, s0, s1, s2, s3⟩ := cells4 j5.out; obtain ⟨q0, q1, q2, q3, -, -, -, -⟩ := cells4 k5.out)
          | (go_at_call 52; refine HM2.out.mono ?_; rintro e w3 ⟨rfl, hB3⟩; have hBc4 : Below w2.heap.size w2 (w3.alloc (.cells #[.int .i64 m.id, .int .i64 m.arg, .int .u8 m.kind, .int .i64 m.n] 37 (0, 0))) := hB3.alloc hB3.size _; have hBw4 := hbw2.trans (hBc4.mono hbw2.size); have j4 := Lib.hid ((hBc4.block _ (lt_of_heap j2.out)).trans j2.out); have k4 := Lib.hid (World.alloc_heap_new w3 (.cells #[.int .i64 m.id, .int .i64 m.arg, .int .u8 m.kind, .int .i64 m.n] 37 (0, 0))); have n1 : w3.heap.size ≠ w.heap.size := by have := hB3.size; omega)
          | go_in)
        go_roundw
        case rel => exact ⟨_, cnt1, ranges_keep HRG1.out hBc5 (by omega) (by have := HZ.out; omega), (HP2.out.next (hBc5.mono (by omega))).strike (HMS.out)⟩
        case measure => rw [(ranges_keep HRG1.out hBc5 (by omega) (by have := HZ.out; omega)).left_eq, HRG.out.left_eq]; exact hlt
end Go.Proofs.YtepdlghobopdbaaGreatDoor
