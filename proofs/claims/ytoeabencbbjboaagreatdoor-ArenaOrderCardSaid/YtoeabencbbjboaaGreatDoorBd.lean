/-
  WALKS: the text of a move.
-/
import Derived.Test.YtoeabencbbjboaaGreatDoorBc
import Derived.Lib.AppendIntMem
import Derived.Lib.ItoaLen
import Derived.Deep.RegionHeld3
namespace Go.Proofs.YtoeabencbbjboaaGreatDoor
open Go.RowKit Go.MapKept Go.Shelf

/-- The table of powers of ten reads as its text lays it. -/
def GT (w : World) : Prop := Lib.TabIs Tryz.prog w "internal/strconv.uint64pow10" .u64 Lib.pow10Tab
theorem GT.below {w w' : World} (h : GT w) (hb : Below w.heap.size w w') : GT w' := by
  unfold GT Lib.TabIs World.var? at h ⊢
  rw [show Tryz.prog.globalNamed "internal/strconv.uint64pow10" = some 1 by kernel_rfl] at h ⊢
  simp only [Option.bind_some] at h ⊢
  have hlt : 1 < w.heap.size := by
    rcases Nat.lt_or_ge 1 w.heap.size with h' | h'
    · exact h'
    · rw [Array.getElem?_eq_none h'] at h; cases h
  rw [hb.block _ hlt]; exact h
theorem itoa_any (n : Int) (h0 : -9223372036854775808 ≤ n) (h1 : n ≤ 9223372036854775807) (w : World) (hT : GT w) :
    Calls Tryz.prog 94 #[.int .i64 n] w fun e w' => e = .returned (.string ⟨(Lib.itoa n).toArray⟩) ∧ Below w.heap.size w w' :=
  (Tryz.strconv_Itoa n h0 h1 w hT).mono fun e w' ⟨he, k, os, hw⟩ => ⟨he, by subst hw; exact Lib.below_grow _ _ (Nat.le_refl _) _ _⟩
theorem itoa_len (n : Int) (h0 : 0 ≤ n) (h1 : n ≤ 9223372036854775807) : (Lib.itoa n).length ≤ 100 := Nat.le_trans (Lib.itoa_length_le n (by omega) h1) (by omega)

namespace Ar
def hasText (m : Mv) : Bool := if m.id < 0 ∨ m.arg < 0 then false else if m.kind = 1 then decide (m.n = 0) else if m.kind = 2 then decide (0 ≤ m.n) else if m.kind = 3 then (decide (0 ≤ m.n) || decide (m.n = -1)) else false
def itoaB (n : Int) : ByteArray := ⟨(Lib.itoa n).toArray⟩
def valueT (m : Mv) : ByteArray := if m.kind = 1 then ⟨#[]⟩ else if m.n = -1 then ⟨#[42]⟩ else itoaB m.n
def signT (m : Mv) : ByteArray := if m.kind = 1 then ⟨#[63]⟩ else if m.kind = 2 then ⟨#[61]⟩ else ⟨#[33]⟩
def placeT (m : Mv) : ByteArray := if 0 < m.arg then itoaB m.id ++ (⟨#[46]⟩ ++ itoaB m.arg) else itoaB m.id
def textOf (m : Mv) : ByteArray := placeT m ++ signT m ++ valueT m
def textRes (m : Mv) : ByteArray × Nat := if hasText m = true then (textOf m, 0) else (⟨#[]⟩, 4)
end Ar

set_option maxRecDepth 100000 in
set_option maxHeartbeats 4000000 in
theorem hasText_any (m : Ar.Mv) (w : World) : Calls Tryz.prog 93 #[mvV m] w fun e w' => e = .returned (.bool (Ar.hasText m)) ∧ Below w.heap.size w w' := by
  have hw : Ar.hasText m = if m.id < 0 ∨ m.arg < 0 then false else if m.kind = 1 then decide (m.n = 0) else if m.kind = 2 then decide (0 ≤ m.n) else if m.kind = 3 then (decide (0 ≤ m.n) || decide (m.n = -1)) else false := rfl
  have HW := Lib.hid hw; clear hw
  unfold mvV
  have hB0 : Below w.heap.size w (w.alloc (.cells #[.int .i64 m.id, .int .i64 m.arg, .int .u8 m.kind, .int .i64 m.n] 40)) := (Below.refl _ _).alloc (Nat.le_refl _) _
  go_enter Tryz.func93, Tryz.ntmps93
  go_wp2
  all_goals
    go_ret
    refine ⟨ret_bool ?_, hB0⟩
    rw [HW.out]
    try simp only [beq_iff_eq, beq_eq_false_iff_ne, ne_eq] at *
    (repeat' split) <;> simp_all
    all_goals first | omega | (exfalso; omega) | exact Bool.eq_iff_iff.2 (by simp) | rfl

set_option maxRecDepth 100000 in
set_option maxHeartbeats 4000000 in
theorem valueText_any (m : Ar.Mv) (w : World) (hT : GT w) (h0 : -9223372036854775808 ≤ m.n) (h1 : m.n ≤ 9223372036854775807) : Calls Tryz.prog 96 #[mvV m] w fun e w' => e = .returned (.string (Ar.valueT m)) ∧ Below w.heap.size w w' := by
  have hB0 : Below w.heap.size w (w.alloc (.cells #[.int .i64 m.id, .int .i64 m.arg, .int .u8 m.kind, .int .i64 m.n] 40)) := (Below.refl _ _).alloc (Nat.le_refl _) _
  have HI := Lib.hid (itoa_any m.n h0 h1 _ (hT.below hB0))
  have hv : Ar.valueT m = if m.kind = 1 then ⟨#[]⟩ else if m.n = -1 then ⟨#[42]⟩ else Ar.itoaB m.n := rfl
  clear hT
  unfold mvV
  by_cases hk : m.kind = 1
  · have HV : Hid (Ar.valueT m = ⟨#[]⟩) := by rw [Hid, hv, if_pos hk]
    have e1 : (m.kind == 1) = true := by rw [beq_iff_eq]; exact hk
    clear hv hk
    go_enter Tryz.func96, Tryz.ntmps96
    go_wp2
    go_ret
    exact ⟨by rw [HV.out]; rfl, hB0⟩
  · have e1 : (m.kind == 1) = false := by rw [beq_eq_false_iff_ne]; exact hk
    by_cases hn : m.n = -1
    · have HV : Hid (Ar.valueT m = ⟨#[42]⟩) := by rw [Hid, hv, if_neg hk, if_pos hn]
      have e2 : (m.n == -1) = true := by rw [beq_iff_eq]; exact hn
      clear hv hk hn
      go_enter Tryz.func96, Tryz.ntmps96
      go_wp2
      go_ret
      exact ⟨by rw [HV.out]; rfl, hB0⟩
    · have HV : Hid (Ar.valueT m = Ar.itoaB m.n) := by rw [Hid, hv, if_neg hk, if_neg hn]
      have e2 : (m.n == -1) = false := by rw [beq_eq_false_iff_ne]; exact hn
      clear hv hk hn
      go_enter Tryz.func96, Tryz.ntmps96
      go_wp2_with (go_at_call 94; refine HI.out.mono ?_; rintro e w2 ⟨rfl, hB2⟩)
      go_ret
      exact ⟨by rw [HV.out]; rfl, hB0.trans (hB2.mono hB0.size)⟩

theorem run_lookup_sign (w : World) (b : Nat) (m : Ar.Mv) (hk : m.kind = 1 ∨ m.kind = 2 ∨ m.kind = 3) (hb : w.heap[b]? = some signObj) :
    (Instr.lookup 118 (.map (some b)) (.int .u8 m.kind) false).run Tryz.prog w = .ok (.string (Ar.signT m)) w := by
  unfold signObj at hb
  unfold Ar.signT
  rcases hk with h | h | h <;> rw [h]
  · have hk : IsKey (.int .u8) (.int .u8 1) := by simp [IsKey]
    have hf : Instr.findNow (.int .u8) (.int .u8 1) [{ key := .int .u8 1, val := .string ⟨#[63]⟩, born := 0 }, { key := .int .u8 2, val := .string ⟨#[61]⟩, born := 1 }, { key := .int .u8 3, val := .string ⟨#[33]⟩, born := 2 }] 0 = some (some (0, .string ⟨#[63]⟩)) := by rfl
    simp [Instr.lookup, run_underlying Tryz.underlying118, MapKept.run_getObj_map hb, run_checkKey Tryz.underlying5 hk, run_findKey Tryz.underlying5 hf, Result.andThen]
  · have hk : IsKey (.int .u8) (.int .u8 2) := by simp [IsKey]
    have hf : Instr.findNow (.int .u8) (.int .u8 2) [{ key := .int .u8 1, val := .string ⟨#[63]⟩, born := 0 }, { key := .int .u8 2, val := .string ⟨#[61]⟩, born := 1 }, { key := .int .u8 3, val := .string ⟨#[33]⟩, born := 2 }] 0 = some (some (1, .string ⟨#[61]⟩)) := by rfl
    simp [Instr.lookup, run_underlying Tryz.underlying118, MapKept.run_getObj_map hb, run_checkKey Tryz.underlying5 hk, run_findKey Tryz.underlying5 hf, Result.andThen]
  · have hk : IsKey (.int .u8) (.int .u8 3) := by simp [IsKey]
    have hf : Instr.findNow (.int .u8) (.int .u8 3) [{ key := .int .u8 1, val := .string ⟨#[63]⟩, born := 0 }, { key := .int .u8 2, val := .string ⟨#[61]⟩, born := 1 }, { key := .int .u8 3, val := .string ⟨#[33]⟩, born := 2 }] 0 = some (some (2, .string ⟨#[33]⟩)) := by rfl
    simp [Instr.lookup, run_underlying Tryz.underlying118, MapKept.run_getObj_map hb, run_checkKey Tryz.underlying5 hk, run_findKey Tryz.underlying5 hf, Result.andThen]
end Go.Proofs.YtoeabencbbjboaaGreatDoor
