/-
  WALKS: words.
-/
import Derived.Test.YtchkngabppmbkaaDoorLexF
import Derived.StillTailTactics
import Derived.Deep.RegionHeld3
namespace Go.Proofs.YtchkngabppmbkaaDoor
open Go.RowKit
section
variable (s : ByteArray) (k b : Nat) (w : World)

theorem U8s.three (w : World) (t : Nat) (x y z : Nat) : U8s (w.alloc (.cells #[.int .u8 (x : Int), .int .u8 (y : Int), .int .u8 (z : Int)] t)) w.heap.size 0 [x, y, z] := by
  intro j hj
  have : j = 0 ∨ j = 1 ∨ j = 2 := by simp at hj; omega
  rcases this with rfl | rfl | rfl <;> simp [go_sem]

set_option maxRecDepth 100000 in
set_option maxHeartbeats 2000000 in
theorem piece_name (hs : s.size ≤ 281474976710656) (hk : k < s.size) (hc : Lx.cls s[k] = 2) (hb : w.heap[b]? = some kwObj) :
    Calls Tryd.prog 83 #[.string s, .int .i64 (k : Int), .map (some b)] w fun e w' =>
      e = .returned (if Lx.isWord (Lx.wordAt s k) then .tuple #[tokV 3 (Lx.wordAt s k) k, .int .i64 0] else .tuple #[tokV 1 (Lx.wordAt s k) k, .int .i64 (Lx.nameErr (Lx.wordAt s k) : Int)]) ∧ Below w.heap.size w w' := by
  have hC := fun W => classOf_any s[k] W
  rw [hc] at hC
  have HC := Lib.hid hC; clear hC hc
  have hR : ∀ A B : Obj, Calls Tryd.prog 94 #[.string s, .int .i64 (k : Int), .slice (some ⟨w.heap.size + 1 + 1, 0, none⟩) 3 3] (((w.alloc A).alloc B).alloc (.cells #[.int .u8 2, .int .u8 3, .int .u8 4] 112)) (fun e w' => e = .returned (.string (Lx.wordAt s k)) ∧ ((w.alloc A).alloc B).alloc (.cells #[.int .u8 2, .int .u8 3, .int .u8 4] 112) = w') := fun A B => by
    have h := run_any s k [2, 3, 4] ((w.alloc A).alloc B).heap.size 0 3 _ (by omega) (by omega) (by simp) (by simp) (U8s.three ((w.alloc A).alloc B) 112 2 3 4)
    rw [World.size_alloc, World.size_alloc] at h
    exact h
  have hN := fun W => nameError_any (Lx.wordAt s k) W
  have hL := fun W hb => run_lookup_kw W b (Lx.wordAt s k) hb
  have hlt : b < w.heap.size := (Array.getElem?_eq_some_iff.1 hb).1
  generalize Lx.wordAt s k = T at *
  generalize Lx.nameErr T = N at *
  have HR := Lib.hid hR; clear hR
  have HN := Lib.hid hN; clear hN
  cases hw : Lx.isWord T
  all_goals
    rw [hw] at hL
    clear hw
    have HL : ∀ A B C : Obj, (Instr.lookup 109 (.map (some b)) (.string T) false).run Tryd.prog (((w.alloc A).alloc B).alloc C) = .ok (.bool _) (((w.alloc A).alloc B).alloc C) := fun A B C =>
      hL _ ((Below.heap_alloc _ _ _ (by simp; omega)).trans ((Below.heap_alloc _ _ _ (by simp; omega)).trans ((Below.heap_alloc _ _ _ hlt).trans hb)))
    clear hL hb
    go_enter Tryd.func83, Tryd.ntmps83
    go_wp2_with (first
      | (go_at_call 92; refine (HC.out _).mono ?_; rintro e w' ⟨rfl, rfl⟩)
      | (go_at_call 94; refine (HR.out _ _).mono ?_; rintro e w' ⟨rfl, rfl⟩))
  · go_region_with (go_at_call 95; refine (HN.out _).mono ?_; rintro e w' ⟨rfl, rfl⟩)
    all_goals
      go_wp2
      refine bodyPost_ret (v := .tuple #[tokV 1 T k, .int .i64 (N : Int)]) (by simp [tokV, results, Tryd.results83, go_sem]) rfl ⟨rfl, ?_⟩
      repeat (first | exact Below.refl _ _ | refine Below.drew ?_ | refine Below.setCell ?_ (by first | omega | (simp; omega) | simp) _ | refine below_drewN ?_ _ | refine Below.alloc ?_ (by first | omega | (simp; omega) | simp) _)
  · refine bodyPost_ret (v := .tuple #[tokV 3 T k, .int .i64 0]) (by simp [tokV, results, Tryd.results83, go_sem]) rfl ⟨rfl, ?_⟩
    repeat (first | exact Below.refl _ _ | refine Below.drew ?_ | refine Below.setCell ?_ (by first | omega | (simp; omega) | simp) _ | refine below_drewN ?_ _ | refine Below.alloc ?_ (by first | omega | (simp; omega) | simp) _)

theorem cells_after {w w1 : World} {A B C : Array Value} {t u v : TypeId} (h : Below (((w.alloc (.cells A t)).alloc (.cells B u)).alloc (.cells C v)).drew.heap.size (((w.alloc (.cells A t)).alloc (.cells B u)).alloc (.cells C v)).drew w1) :
    (∀ i, w1.cell? ⟨w.heap.size, i, none⟩ = A[i]?) ∧ (∀ i, w1.cell? ⟨w.heap.size + 1, i, none⟩ = B[i]?) ∧ (∀ i, w1.frozen? ⟨w.heap.size, i, none⟩ = false) :=
  ⟨fun i => (h.cell (p := ⟨w.heap.size, i, none⟩) (by simp; omega)).trans (by simp [go_sem]), fun i => (h.cell (p := ⟨w.heap.size + 1, i, none⟩) (by simp)).trans (by simp [go_sem]),
    fun i => (h.frozen (p := ⟨w.heap.size, i, none⟩) (by simp; omega)).trans (by simp [go_sem])⟩

theorem numErr_lt (t : ByteArray) : (Lx.numErr t : Int) ≤ 4 := by unfold Lx.numErr; (repeat' split) <;> omega

set_option maxRecDepth 100000 in
set_option maxHeartbeats 4000000 in
theorem piece_number (hs : s.size ≤ 281474976710656) (hk : k < s.size) (hc : Lx.cls s[k] = 4) (hG : GV w) :
    Calls Tryd.prog 83 #[.string s, .int .i64 (k : Int), .map (some b)] w fun e w' =>
      e = .returned (.tuple #[tokV 2 (Lx.wordAt s k) k, .int .i64 (Lx.numErr (Lx.wordAt s k) : Int)]) ∧ Below w.heap.size w w' := by
  have hC := fun W => classOf_any s[k] W
  rw [hc] at hC
  have HC := Lib.hid hC; clear hC
  have hR : ∀ A B : Obj, Calls Tryd.prog 94 #[.string s, .int .i64 (k : Int), .slice (some ⟨w.heap.size + 1 + 1, 0, none⟩) 3 3] (((w.alloc A).alloc B).alloc (.cells #[.int .u8 2, .int .u8 3, .int .u8 4] 112)) (fun e w' => e = .returned (.string (Lx.wordAt s k)) ∧ ((w.alloc A).alloc B).alloc (.cells #[.int .u8 2, .int .u8 3, .int .u8 4] 112) = w') := fun A B => by
    have h := run_any s k [2, 3, 4] ((w.alloc A).alloc B).heap.size 0 3 _ (by omega) (by omega) (by simp) (by simp) (U8s.three ((w.alloc A).alloc B) 112 2 3 4)
    rw [World.size_alloc, World.size_alloc] at h
    exact h
  have hal : Lx.isAlnum s[k] = true := by unfold Lx.isAlnum; rw [hc]; rfl
  have hle := Lx.runEnd_le (p := Lx.isAlnum) (s := s) (k := k) (by omega)
  have hge : k < Lx.runEnd Lx.isAlnum s k := by
    rw [Lx.runEnd_step hk hal]; have := Lx.runEnd_ge (p := Lx.isAlnum) (s := s) (k := k + 1); omega
  have hsz : (Lx.wordAt s k).size = Lx.runEnd Lx.isAlnum s k - k := by unfold Lx.wordAt; rw [ByteArray.size_extract]; omega
  have h0 : 0 < (Lx.wordAt s k).size := by omega
  have hm : (Lx.wordAt s k).size ≤ 281474976710656 := by omega
  have hN := fun W hG => numberError_any (Lx.wordAt s k) h0 hm W hG
  clear hc hal hle hge hsz
  have hnl := numErr_lt (Lx.wordAt s k)
  generalize Lx.numErr (Lx.wordAt s k) = N at *
  generalize Lx.wordAt s k = T at *
  have HR := Lib.hid hR; clear hR
  have HN : Hid (∀ W : World, Below w.heap.size w W → Calls Tryd.prog 96 #[.string T] W fun e w' => e = .returned (.int .i64 (N : Int)) ∧ Below W.heap.size W w') := fun W hW => hN W (hG.below hW)
  clear hN hG
  go_enter Tryd.func83, Tryd.ntmps83
  go_wp2_with (first
      | (go_at_call 92; refine (HC.out _).mono ?_; rintro e w' ⟨rfl, rfl⟩)
      | (go_at_call 94; refine (HR.out _ _).mono ?_; rintro e w' ⟨rfl, rfl⟩))
  go_region_with (go_at_call 96; refine (HN.out _ (by repeat (first | assumption | exact Below.refl _ _ | refine Below.drew ?_ | refine Below.setCell ?_ (by first | omega | (simp; omega) | simp) _ | refine below_drewN ?_ _ | refine Below.alloc ?_ (by first | omega | (simp; omega) | simp) _))).mono ?_; rintro e w1 ⟨rfl, hB1⟩; obtain ⟨p0, p1, p2⟩ := cells_after hB1; have hw1 : Below w.heap.size w w1 := Below.trans (by repeat (first | assumption | exact Below.refl _ _ | refine Below.drew ?_ | refine Below.setCell ?_ (by first | omega | (simp; omega) | simp) _ | refine below_drewN ?_ _ | refine Below.alloc ?_ (by first | omega | (simp; omega) | simp) _)) (hB1.mono (by simp; omega)); clear hB1)
  all_goals
    go_wp2
    refine bodyPost_ret (v := .tuple #[tokV 2 T k, .int .i64 (N : Int)]) (by simp [tokV, results, Tryd.results83, go_sem, p0]) rfl ⟨rfl, ?_⟩
    repeat (first | assumption | exact Below.refl _ _ | refine Below.drew ?_ | refine Below.setCell ?_ (by first | omega | (simp; omega) | simp) _ | refine below_drewN ?_ _ | refine Below.alloc ?_ (by first | omega | (simp; omega) | simp) _)

theorem piece_any (hs : s.size ≤ 281474976710656) (hk : k < s.size) (hb : w.heap[b]? = some kwObj) (hG : GV w) :
    Calls Tryd.prog 83 #[.string s, .int .i64 (k : Int), .map (some b)] w fun e w' =>
      e = .returned (.tuple #[tokV (Lx.piece s k).1 (Lx.piece s k).2.1 k, .int .i64 ((Lx.piece s k).2.2 : Int)]) ∧ Below w.heap.size w w' := by
  unfold Lx.piece
  rw [Lx.byteAt_eq s k hk]
  by_cases h6 : Lx.cls s[k] = 6
  · simp only [h6, if_true]; exact piece_note s k b w hs hk h6
  · by_cases h2 : Lx.cls s[k] = 2
    · simp only [h2]
      refine (piece_name s k b w hs hk h2 hb).mono fun e w' ⟨he, hB⟩ => ⟨?_, hB⟩
      rw [he]
      cases Lx.isWord (Lx.wordAt s k) <;> rfl
    · by_cases h4 : Lx.cls s[k] = 4
      · simp only [h4]; exact piece_number s k b w hs hk h4 hG
      · by_cases h5 : Lx.cls s[k] = 5
        · simp only [h5]; exact piece_sign s k b w hs hk h5
        · rw [if_neg h6, if_neg h2, if_neg h4, if_neg h5]; exact piece_idle s k b w hs hk h6 h2 h4 h5
end
end Go.Proofs.YtchkngabppmbkaaDoor
