/-
  WALKS: bytes and their classes.
-/
import Derived.Test.YtchkngabppmbkaaDoorRows
import Derived.Test.YtchkngabppmbkaaDoorShelf
import Derived.Test.YtchkngabppmbkaaDoorSpec
import Derived.WalkKit
import Derived.BigQuiet
import Derived.Deep.QuietTactic
import Derived.Lib.Hide
namespace Go.Proofs.YtchkngabppmbkaaDoor
open Go.RowKit

theorem ret_int {k : IntKind} {a b : Int} (h : a = b) : Ending.returned (.int k a) = .returned (.int k b) := by rw [h]

theorem ret_bool {a b : Bool} (h : a = b) : Ending.returned (.bool a) = .returned (.bool b) := by rw [h]

theorem signIndex (c : UInt8) (w : World) : ∃ k : Int, (0 ≤ k ↔ Lx.isSign c = true) ∧
    Calls Tryd.prog 108 #[.string ⟨#[61, 60, 43, 45, 42, 33, 40, 41, 123, 125, 44, 59, 58, 46]⟩, .int .u8 (c.toNat : Int)] w fun e w' => e = .returned (.int .i64 k) ∧ w = w' := by
  refine ⟨_, Lx.indexByte_nonneg Lx.signs c, (Tryd.strings_IndexByte _ _ w).mono fun e w' ⟨he, hw⟩ => ⟨?_, hw.symm⟩⟩
  rw [he]
  exact ret_int (by simp [Lx.signs])

set_option maxRecDepth 100000 in
set_option maxHeartbeats 1000000 in
theorem classOf_any (c : UInt8) (w : World) :
    Calls Tryd.prog 92 #[.int .u8 (c.toNat : Int)] w fun e w' => e = .returned (.int .u8 (Lx.cls c : Int)) ∧ w = w' := by
  have hc : (c.toNat : Int) < 256 := by have := c.toNat_lt; omega
  unfold Lx.cls
  obtain ⟨k, hk, hcon⟩ := signIndex c w
  generalize Lx.isSign c = sg at hk ⊢
  generalize c.toNat = n at hc hcon ⊢
  have HK := Lib.hid hk; clear hk
  have HC := Lib.hid hcon; clear hcon
  go_enter Tryd.func92, Tryd.ntmps92
  go_wp2_with (go_at_call 108; refine HC.out.mono ?_; rintro e w' ⟨rfl, rfl⟩)
  all_goals go_ret
  all_goals
    refine ⟨ret_int ?_, rfl⟩
    have hk := HK.out
    unfold Lx.clsN
    cases sg <;> simp only [beq_iff_eq, beq_eq_false_iff_ne, Bool.false_eq_true, iff_true, iff_false, if_true, if_false] at * <;> (repeat' split) <;> omega

/-- The cells of a list of small numbers (classes). -/
def U8s (w : World) (b off : Nat) (zs : List Nat) : Prop := ∀ j, j < zs.length → w.cell? ⟨b, off + j, none⟩ = some (.int .u8 ((zs[j]?.getD 0 : Nat) : Int))

set_option maxRecDepth 100000 in
set_option maxHeartbeats 1000000 in
theorem index_cls (zs : List Nat) (x b off cap : Nat) (w : World) (hz : ∀ z ∈ zs, z < 256) (_hx : x < 256) (hl : zs.length ≤ 3) (hc : U8s w b off zs) :
    Calls Tryd.prog 107 #[.slice (some ⟨b, off, none⟩) zs.length cap, .int .u8 (x : Int)] w fun e w' => ∃ r : Int, e = .returned (.int .i64 r) ∧ (0 ≤ r ↔ x ∈ zs) ∧ w = w' := by
  go_enter Tryd.func107, Tryd.ntmps107
  go_wp2
  go_loop [8] (fun i => ∃ k : Nat, k ≤ zs.length ∧ i = .int .i64 k ∧ Hid (x ∉ zs.take k)) (fun i => zs.length - (intOf i).toNat)
  case atStart => exact ⟨0, Nat.zero_le _, rfl, by simp [Hid]⟩
  case round =>
    obtain ⟨k, hk, rfl, hn⟩ := hrel
    by_cases hlt : k < zs.length
    · have hck := hc k hlt
      have hkn : zs[k]? = some zs[k] := List.getElem?_eq_getElem hlt
      rw [hkn, Option.getD_some] at hck
      have hz' : zs[k] < 256 := hz _ (List.getElem_mem hlt)
      have HT := Lib.hid (List.take_succ_eq_append_getElem hlt)
      have HM := Lib.hid (List.getElem_mem hlt)
      clear hkn hc hz
      generalize zs[k] = z at *
      by_cases he : x = z
      · subst he
        go_wp2
        go_ret
        exact ⟨_, rfl, ⟨fun _ => HM.out, fun _ => by omega⟩, rfl⟩
      · go_wp2
        go_round
        case rel => exact ⟨k + 1, by omega, by go_num, by rw [Hid, HT.out]; have := hn.out; simp [this, he]⟩
        case measure => simp [intOf]; omega
    · obtain rfl : k = zs.length := by omega
      go_wp2
      go_ret
      exact ⟨_, rfl, ⟨fun h => by omega, fun h => by have := hn.out; simp [h] at this⟩, rfl⟩

set_option maxRecDepth 100000 in
set_option maxHeartbeats 1000000 in
theorem contains_cls (zs : List Nat) (x b off cap : Nat) (w : World) (hz : ∀ z ∈ zs, z < 256) (hx : x < 256) (hl : zs.length ≤ 3) (hc : U8s w b off zs) :
    Calls Tryd.prog 91 #[.slice (some ⟨b, off, none⟩) zs.length cap, .int .u8 (x : Int)] w fun e w' => e = .returned (.bool (zs.contains x)) ∧ w = w' := by
  have HI := Lib.hid (index_cls zs x b off cap w hz hx hl hc)
  clear hc hz
  obtain ⟨r, hr⟩ : ∃ r : Bool, zs.contains x = r := ⟨_, rfl⟩
  rw [hr]
  have HR := Lib.hid hr; clear hr
  go_enter Tryd.func91, Tryd.ntmps91
  go_wp2_with (go_at_call 107; refine HI.out.mono ?_; rintro e w' ⟨q, rfl, hq, rfl⟩; have HQ := Lib.hid hq; clear hq)
  go_ret
  refine ⟨ret_bool ?_, rfl⟩
  have hq := HQ.out
  have hr := HR.out
  rw [← hr, Bool.eq_iff_iff]
  simp [hq]

set_option maxRecDepth 100000 in
set_option maxHeartbeats 1000000 in
theorem is_any (c : UInt8) (zs : List Nat) (b off cap : Nat) (w : World) (hz : ∀ z ∈ zs, z < 256) (hl : zs.length ≤ 3) (hc : U8s w b off zs) :
    Calls Tryd.prog 82 #[.int .u8 (c.toNat : Int), .slice (some ⟨b, off, none⟩) zs.length cap] w fun e w' => e = .returned (.bool (zs.contains (Lx.cls c))) ∧ w = w' := by
  have HI := Lib.hid (contains_cls zs (Lx.cls c) b off cap w hz (Lx.cls_lt c) hl hc)
  have HC := Lib.hid (classOf_any c w)
  clear hc hz
  have hcl := Lx.cls_lt c
  generalize Lx.cls c = k at *
  generalize c.toNat = n at *
  obtain ⟨r, hr⟩ : ∃ r : Bool, zs.contains k = r := ⟨_, rfl⟩
  rw [hr] at HI ⊢
  clear hr
  go_enter Tryd.func82, Tryd.ntmps82
  go_wp2_with (first
    | (go_at_call 92; refine HC.out.mono ?_; rintro e w' ⟨rfl, rfl⟩)
    | (go_at_call 91; refine HI.out.mono ?_; rintro e w' ⟨rfl, rfl⟩))
  go_ret
  exact ⟨rfl, rfl⟩

end Go.Proofs.YtchkngabppmbkaaDoor
