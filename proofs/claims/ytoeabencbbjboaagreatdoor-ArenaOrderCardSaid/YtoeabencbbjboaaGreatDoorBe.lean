/-
  WALKS: Text.
-/
import Derived.Test.YtoeabencbbjboaaGreatDoorBd
import Derived.Laws.Concat
namespace Go.Proofs.YtoeabencbbjboaaGreatDoor
open Go.RowKit Go.MapKept Go.Shelf

def MvOk (m : Ar.Mv) : Prop := -9223372036854775808 ≤ m.id ∧ m.id ≤ 9223372036854775807 ∧ -9223372036854775808 ≤ m.arg ∧ m.arg ≤ 9223372036854775807 ∧ -9223372036854775808 ≤ m.n ∧ m.n ≤ 9223372036854775807
theorem itoa_b (n : Int) (h0 : -9223372036854775808 ≤ n) (h1 : n ≤ 9223372036854775807) (w : World) (hT : GT w) :
    Calls Tryz.prog 94 #[.int .i64 n] w fun e w' => e = .returned (.string (Ar.itoaB n)) ∧ Below w.heap.size w w' := itoa_any n h0 h1 w hT
theorem itoaB_size (n : Int) (h0 : 0 ≤ n) (h1 : n ≤ 9223372036854775807) : (Ar.itoaB n).size ≤ 100 := by
  have := itoa_len n h0 h1
  show ((Lib.itoa n).toArray).size ≤ 100
  simpa using this
theorem signT_size (m : Ar.Mv) : (Ar.signT m).size ≤ 1 := by
  unfold Ar.signT
  split
  · exact Nat.le_refl _
  · split <;> exact Nat.le_refl _
theorem hasText_parts {m : Ar.Mv} (h : Ar.hasText m = true) : 0 ≤ m.id ∧ 0 ≤ m.arg ∧ (m.kind = 1 ∨ m.kind = 2 ∨ m.kind = 3) ∧ (0 ≤ m.n ∨ m.n = -1) := by
  unfold Ar.hasText at h
  split at h
  · cases h
  · refine ⟨by omega, by omega, ?_⟩
    split at h
    · simp only [decide_eq_true_eq] at h
      exact ⟨.inl (by assumption), by omega⟩
    · split at h
      · simp only [decide_eq_true_eq] at h
        exact ⟨.inr (.inl (by assumption)), by omega⟩
      · split at h
        · simp only [Bool.or_eq_true, decide_eq_true_eq] at h
          exact ⟨.inr (.inr (by assumption)), by omega⟩
        · cases h
theorem valueT_size (m : Ar.Mv) (h : Ar.hasText m = true) (hm : MvOk m) : (Ar.valueT m).size ≤ 100 := by
  unfold Ar.valueT
  obtain ⟨_, _, _, h4⟩ := hasText_parts h
  split
  · exact Nat.zero_le _
  · split
    · show 1 ≤ 100; omega
    · rcases h4 with h | h
      · exact itoaB_size _ h hm.2.2.2.2.2
      · exact absurd h (by assumption)
def TS (w : World) (b : Nat) (id arg kind n : Int) (W : World) : Prop := Below w.heap.size w W ∧ W.cell? ⟨b, 0, none⟩ = some (.int .i64 id) ∧ W.cell? ⟨b, 1, none⟩ = some (.int .i64 arg) ∧ W.cell? ⟨b, 2, none⟩ = some (.int .u8 kind) ∧ W.cell? ⟨b, 3, none⟩ = some (.int .i64 n)
theorem TS.next {w W W' : World} {b : Nat} {id arg kind n : Int} (h : TS w b id arg kind n W) (hB : Below W.heap.size W W') : TS w b id arg kind n W' :=
  ⟨h.1.trans (hB.mono h.1.size), keep_cell hB h.2.1, keep_cell hB h.2.2.1, keep_cell hB h.2.2.2.1, keep_cell hB h.2.2.2.2⟩

theorem below_of_alloc {W V : World} {o : Obj} (h : V = W.alloc o) : Below W.heap.size W V := by subst h; exact (Below.refl _ _).alloc (Nat.le_refl _) _
theorem heap_of_alloc {W V : World} {o : Obj} (h : V = W.alloc o) : V.heap[W.heap.size]? = some o := by subst h; exact Go.heap_alloc_new W _

set_option maxRecDepth 100000 in
set_option maxHeartbeats 8000000 in
theorem text_any (m : Ar.Mv) (w : World) (hT : GT w) (hm : MvOk m) : Calls Tryz.prog 41 #[mvV m] w fun e w' => e = .returned (.tuple #[.string (Ar.textRes m).1, .int .i64 ((Ar.textRes m).2 : Int)]) ∧ Below w.heap.size w w' := by
  have hB0 : Below w.heap.size w (w.alloc (.cells #[.int .i64 m.id, .int .i64 m.arg, .int .u8 m.kind, .int .i64 m.n] 40)) := (Below.refl _ _).alloc (Nat.le_refl _) _
  have HH := Lib.hid (fun W => hasText_any m W)
  have j0 := Lib.hid (World.alloc_heap_new w (.cells #[.int .i64 m.id, .int .i64 m.arg, .int .u8 m.kind, .int .i64 m.n] 40 (0, 0)))
  cases hh : Ar.hasText m
  · have hr : Ar.textRes m = (⟨#[]⟩, 4) := by unfold Ar.textRes; rw [if_neg (by rw [hh]; simp)]
    rw [hh] at HH
    have HR := Lib.hid hr
    clear hh hr hT hm
    unfold mvV at HH ⊢
    go_enter Tryz.func41, Tryz.ntmps41
    go_wp2_with (go_at_call 93; refine (HH.out _).mono ?_; rintro e w2 ⟨rfl, hB2⟩)
    exact bodyPost_ret (v := .tuple #[.string ⟨#[]⟩, .int .i64 4]) (by simp [results, Tryz.results41, go_sem]) rfl ⟨by rw [HR.out]; rfl, hB0.trans (hB2.mono hB0.size)⟩
  · obtain ⟨p1, p2, hk, _⟩ := hasText_parts hh
    have v1 := valueT_size m hh hm
    have v2 := signT_size m
    have v3 := itoaB_size m.id p1 hm.2.1
    have v4 := itoaB_size m.arg p2 hm.2.2.2.1
    have HI := Lib.hid (fun W (hB : Below w.heap.size w W) => itoa_b m.id hm.1 hm.2.1 W (hT.below hB))
    have HJ := Lib.hid (fun W (hB : Below w.heap.size w W) => itoa_b m.arg hm.2.2.1 hm.2.2.2.1 W (hT.below hB))
    have HV := Lib.hid (fun W (hB : Below w.heap.size w W) => valueText_any m W (hT.below hB) hm.2.2.2.2.1 hm.2.2.2.2.2)
    have HL := Lib.hid (fun W b => run_lookup_sign W b m hk)
    rw [hh] at HH
    have hr : Ar.textRes m = (Ar.placeT m ++ Ar.signT m ++ Ar.valueT m, 0) := by unfold Ar.textRes Ar.textOf; rw [if_pos hh]
    have hpl : Ar.placeT m = if 0 < m.arg then Ar.itoaB m.id ++ (⟨#[46]⟩ ++ Ar.itoaB m.arg) else Ar.itoaB m.id := rfl
    generalize Ar.valueT m = vt at *
    generalize Ar.signT m = st at *
    generalize Ar.itoaB m.id = si at *
    generalize Ar.itoaB m.arg = sj at *
    generalize Ar.placeT m = pt at *
    unfold mvV at HH HV ⊢
    clear hh hT hm hk
    have hdot : (⟨#[46]⟩ : ByteArray).size = 1 := rfl
    by_cases ha : 0 < m.arg
    · rw [if_pos ha] at hpl
      subst hpl
      have HR := Lib.hid hr
      have ad1 : ∀ W : World, (Op.stringOp .add ⟨#[46]⟩ sj).run Tryz.prog W = .ok (.string (⟨#[46]⟩ ++ sj)) W := fun W => run_string_add_sum (w := W) _ _ (by omega)
      have z1 : (⟨#[46]⟩ ++ sj : ByteArray).size ≤ 101 := by rw [ByteArray.size_append]; omega
      have ad2 : ∀ W : World, (Op.stringOp .add si (⟨#[46]⟩ ++ sj)).run Tryz.prog W = .ok (.string (si ++ (⟨#[46]⟩ ++ sj))) W := fun W => run_string_add_sum (w := W) _ _ (by omega)
      have z2 : (si ++ (⟨#[46]⟩ ++ sj) : ByteArray).size ≤ 201 := by rw [ByteArray.size_append]; omega
      have ad3 : ∀ W : World, (Op.stringOp .add (si ++ (⟨#[46]⟩ ++ sj)) st).run Tryz.prog W = .ok (.string (si ++ (⟨#[46]⟩ ++ sj) ++ st)) W := fun W => run_string_add_sum (w := W) _ _ (by omega)
      have z3 : (si ++ (⟨#[46]⟩ ++ sj) ++ st : ByteArray).size ≤ 202 := by rw [ByteArray.size_append]; omega
      have ad4 : ∀ W : World, (Op.stringOp .add (si ++ (⟨#[46]⟩ ++ sj) ++ st) vt).run Tryz.prog W = .ok (.string (si ++ (⟨#[46]⟩ ++ sj) ++ st ++ vt)) W := fun W => run_string_add_sum (w := W) _ _ (by omega)
      clear z1 z2 z3 v1 v2 v3 v4 hr hdot
      go_enter Tryz.func41, Tryz.ntmps41
      go_wp2_with (first
        | (go_at_call 94; refine (HJ.out _ hBw3).mono ?_; rintro e w4 ⟨rfl, hB4⟩; have hBw4 := hBw3.trans (hB4.mono hBw3.size); have j4 := Lib.hid ((hB4.block _ (lt_of_heap j3.out)).trans j3.out); obtain ⟨r0, r1, r2, r3, s0, s1, s2, s3⟩ := cells4 j4.out)
        | (go_at_call 94; refine (HI.out _ hBw2).mono ?_; rintro e w3 ⟨rfl, hB3⟩; have hBw3 := hBw2.trans (hB3.mono hBw2.size); have j3 := Lib.hid ((hB3.block _ (lt_of_heap j2.out)).trans j2.out); obtain ⟨r0, r1, r2, r3, s0, s1, s2, s3⟩ := cells4 j3.out)
        | (go_at_call 93; refine (HH.out _).mono ?_; rintro e w2 ⟨rfl, hB2⟩; have hBw2 := hB0.trans (hB2.mono hB0.size); have j2 := Lib.hid ((hB2.block _ (lt_of_heap j0.out)).trans j0.out); obtain ⟨r0, r1, r2, r3, s0, s1, s2, s3⟩ := cells4 j2.out))
      have hS0 : TS w w.heap.size m.id m.arg m.kind m.n w4.drew := ⟨hBw4.drew, r0, r1, r2, r3⟩
      have HS0 := Lib.hid hS0
      clear hS0 hB0 hB2 hB3 hB4 hBw2 hBw3 r0 r1 r2 r3 s0 s1 s2 s3
      go_region_held3 (fun w' => Below w.heap.size w w' ∧ w'.cell? ⟨w.heap.size, 0, none⟩ = some (.int .i64 m.id) ∧ w'.cell? ⟨w.heap.size, 1, none⟩ = some (.int .i64 m.arg) ∧ w'.cell? ⟨w.heap.size, 2, none⟩ = some (.int .u8 m.kind) ∧ w'.cell? ⟨w.heap.size, 3, none⟩ = some (.int .i64 m.n))
        (first
          | exact HS0.out
          | exact TS.next (by assumption) hB8
          | exact TS.next (by assumption) hB7
          | go_keep)
        ((first
          | (go_at_call 95; refine (signs_any _).mono ?_; rintro e w7 ⟨rfl, hw7⟩; have hB7 := below_of_alloc hw7; have hm7 := heap_of_alloc hw7; (first | have hL := HL.out w7 w4.heap.size hm7 | have hL := HL.out _ _ hm7); clear hw7)
          | (go_at_call 96; refine (HV.out _ (SI_below (by assumption))).mono ?_; rintro e w8 ⟨rfl, hB8⟩; try have hm8 := (hB8.block _ (lt_of_heap hm7)).trans hm7; (first | have hL := HL.out w8 w4.heap.size hm8 | have hL := HL.out _ _ hm8 | skip))))
      all_goals go_wp2
      all_goals
        refine bodyPost_ret (v := .tuple #[.string (si ++ (⟨#[46]⟩ ++ sj) ++ st ++ vt), .int .i64 0]) (by simp [results, Tryz.results41, go_sem]) rfl ⟨by rw [HR.out]; rfl, ?_⟩
        first
          | exact hBw4.drew.trans ((hB7.trans (hB8.mono hB7.size)).mono hBw4.size)
          | exact hBw4.drew.trans ((hB8.trans (hB7.mono hB8.size)).mono hBw4.size)
    · rw [if_neg ha] at hpl
      rw [hpl] at hr
      clear hpl
      have HR := Lib.hid hr
      have ha0 : ¬ (0 < m.arg) := ha
      have ha1 : decide (0 < m.arg) = false := decide_eq_false ha
      have ad3 : ∀ W : World, (Op.stringOp .add si st).run Tryz.prog W = .ok (.string (si ++ st)) W := fun W => run_string_add_sum (w := W) _ _ (by omega)
      have z3 : (si ++ st : ByteArray).size ≤ 202 := by rw [ByteArray.size_append]; omega
      have ad4 : ∀ W : World, (Op.stringOp .add (si ++ st) vt).run Tryz.prog W = .ok (.string (si ++ st ++ vt)) W := fun W => run_string_add_sum (w := W) _ _ (by omega)
      clear z3 v1 v2 v3 v4 hr hdot
      go_enter Tryz.func41, Tryz.ntmps41
      go_wp2_with (first
        | (go_at_call 94; refine (HI.out _ hBw2).mono ?_; rintro e w3 ⟨rfl, hB3⟩; have hBw3 := hBw2.trans (hB3.mono hBw2.size); have j3 := Lib.hid ((hB3.block _ (lt_of_heap j2.out)).trans j2.out); obtain ⟨r0, r1, r2, r3, s0, s1, s2, s3⟩ := cells4 j3.out)
        | (go_at_call 93; refine (HH.out _).mono ?_; rintro e w2 ⟨rfl, hB2⟩; have hBw2 := hB0.trans (hB2.mono hB0.size); have j2 := Lib.hid ((hB2.block _ (lt_of_heap j0.out)).trans j0.out); obtain ⟨r0, r1, r2, r3, s0, s1, s2, s3⟩ := cells4 j2.out))
      have hS0 : TS w w.heap.size m.id m.arg m.kind m.n w3.drew := ⟨hBw3.drew, r0, r1, r2, r3⟩
      have HS0 := Lib.hid hS0
      clear hS0 hB0 hB2 hB3 hBw2 r0 r1 r2 r3 s0 s1 s2 s3
      go_region_held3 (fun w' => Below w.heap.size w w' ∧ w'.cell? ⟨w.heap.size, 0, none⟩ = some (.int .i64 m.id) ∧ w'.cell? ⟨w.heap.size, 1, none⟩ = some (.int .i64 m.arg) ∧ w'.cell? ⟨w.heap.size, 2, none⟩ = some (.int .u8 m.kind) ∧ w'.cell? ⟨w.heap.size, 3, none⟩ = some (.int .i64 m.n))
        (first
          | exact HS0.out
          | exact TS.next (by assumption) hB8
          | exact TS.next (by assumption) hB7
          | go_keep)
        ((first
          | (go_at_call 95; refine (signs_any _).mono ?_; rintro e w7 ⟨rfl, hw7⟩; have hB7 := below_of_alloc hw7; have hm7 := heap_of_alloc hw7; (first | have hL := HL.out w7 w3.heap.size hm7 | have hL := HL.out _ _ hm7); clear hw7)
          | (go_at_call 96; refine (HV.out _ (SI_below (by assumption))).mono ?_; rintro e w8 ⟨rfl, hB8⟩; try have hm8 := (hB8.block _ (lt_of_heap hm7)).trans hm7; (first | have hL := HL.out w8 w3.heap.size hm8 | have hL := HL.out _ _ hm8 | skip))))
      all_goals go_wp2
      all_goals
        refine bodyPost_ret (v := .tuple #[.string (si ++ st ++ vt), .int .i64 0]) (by simp [results, Tryz.results41, go_sem]) rfl ⟨by rw [HR.out]; rfl, ?_⟩
        first
          | exact hBw3.drew.trans ((hB7.trans (hB8.mono hB7.size)).mono hBw3.size)
          | exact hBw3.drew.trans ((hB8.trans (hB7.mono hB8.size)).mono hBw3.size)
end Go.Proofs.YtoeabencbbjboaaGreatDoor
