/-
  WALKS: the reference: the integer with which a text begins.
-/
import Derived.Test.YtepdlghobopdbaaGreatDoorFa
import Derived.Test.YtepdlghobopdbaaGreatDoorFq
namespace Go.Proofs.YtepdlghobopdbaaGreatDoor
open Go.RowKit Go.MapKept Go.Shelf

theorem drop_get {s : ByteArray} {k : Nat} (h : k < s.size) : (s.data.toList.drop k)[0]? = some s[k] := by
  rw [List.getElem?_drop, Nat.add_zero, List.getElem?_eq_getElem (by simpa using h)]
  rfl

set_option maxRecDepth 100000 in
set_option maxHeartbeats 8000000 in
theorem digits_any (s : ByteArray) (_hs : s.size ≤ 281474976710656) (w : World) :
    Calls Tryz.prog 71 #[.string s] w fun e w' => e = .returned (.tuple #[.int .i64 (Ar.digN 19 0 s.data.toList).1, .int .i64 ((Ar.digN 19 0 s.data.toList).2 : Int)]) ∧ w' = w := by
  obtain ⟨D, hD⟩ : ∃ D, D = Ar.digN 19 0 s.data.toList := ⟨_, rfl⟩
  rw [← hD]
  have HD := Lib.hid hD
  clear hD
  go_enter Tryz.func71, Tryz.ntmps71
  go_wp2
  go_loopw [4, 5] (fun v i wr => ∃ (a : Int) (k : Nat), v = .int .i64 a ∧ i = .int .i64 (k : Int) ∧ k ≤ s.size ∧ k ≤ 19 ∧ Hid (D = ((Ar.digN (19 - k) a (s.data.toList.drop k)).1, (Ar.digN (19 - k) a (s.data.toList.drop k)).2 + k)) ∧ wr = w) (fun _ i _ => s.size - (intOf i).toNat)
  case atStart => exact ⟨0, 0, rfl, rfl, Nat.zero_le _, Nat.zero_le _, HD.out, rfl⟩
  case round =>
    obtain ⟨a, k, rfl, rfl, hk, hk19, hr, rfl⟩ := hrel
    have hEnd : ((19 - k = 0 ∨ s.data.toList.drop k = [] ∨ ∃ c, (s.data.toList.drop k)[0]? = some c ∧ ¬ Ar.isDig c) → Hid (D = (a, k))) := fun h => by
      have := hr.out
      rw [Ar.digN_stop h] at this
      simpa [Hid] using this
    have HEnd := Lib.hid hEnd
    clear hEnd
    by_cases hlt : k < s.size
    · have hg := drop_get hlt
      by_cases h19 : k < 19
      · obtain ⟨c, hc⟩ : ∃ c, s[k] = c := ⟨_, rfl⟩
        rw [hc] at hg
        by_cases hd : Ar.isDig c
        · have HN : Hid (D = ((Ar.digN (19 - (k + 1)) (Ar.digStep a c) (s.data.toList.drop (k + 1))).1, (Ar.digN (19 - (k + 1)) (Ar.digStep a c) (s.data.toList.drop (k + 1))).2 + (k + 1))) := by
            have := hr.out
            rw [show 19 - k = (19 - (k + 1)) + 1 by omega, Ar.digN_step hg hd, List.drop_drop] at this
            rw [Hid, this]
            simp only [Nat.add_assoc, Nat.add_comm 1 k]
          have HS : Hid (Ar.digStep a c = IntKind.i64.wrap (IntKind.i64.wrap (10 * a) + ((c.toNat : Int) - 48))) := rfl
          have hd1 : 48 ≤ (c.toNat : Int) := by have := hd.1; omega
          have hd2 : (c.toNat : Int) ≤ 57 := by have := hd.2; omega
          have hw8 : IntKind.u8.wrap ((c.toNat : Int) - 48) = (c.toNat : Int) - 48 := by
            unfold IntKind.wrap; simp [IntKind.bits, IntKind.signed]; omega
          have hlt' : ((k : Int) < (s.size : Int)) := by omega
          have h19' : ((k : Int) < 19) := by omega
          clear hg hd hr
          generalize Ar.digStep a c = a' at *
          go_wp2
          go_roundw
          case rel => exact ⟨a', k + 1, by rw [HS.out, IntWalk.i64_left, IntWalk.i64_left], by go_num, by omega, by omega, HN.out, by first | trivial | rfl⟩
          case measure => simp [intOf]; omega
        · have HN := HEnd.out (.inr (.inr ⟨c, hg, hd⟩))
          have hlt' : ((k : Int) < (s.size : Int)) := by omega
          have h19' : ((k : Int) < 19) := by omega
          clear hg hr HEnd HD
          by_cases hlo : c.toNat < 48
          · have hd1 : ¬ (48 ≤ (c.toNat : Int)) := by omega
            go_wp2
            exact bodyPost_ret (v := .tuple #[.int .i64 a, .int .i64 (k : Int)]) (by simp [results, Tryz.results71, go_sem]) rfl ⟨by rw [HN.out], rfl⟩
          · have hd1 : 48 ≤ (c.toNat : Int) := by omega
            have hd2 : ¬ ((c.toNat : Int) ≤ 57) := by unfold Ar.isDig at hd; omega
            go_wp2
            exact bodyPost_ret (v := .tuple #[.int .i64 a, .int .i64 (k : Int)]) (by simp [results, Tryz.results71, go_sem]) rfl ⟨by rw [HN.out], rfl⟩
      · have HN := HEnd.out (.inl (by omega))
        have h19' : ¬ ((k : Int) < 19) := by omega
        have hlt' : ((k : Int) < (s.size : Int)) := by omega
        clear hr HEnd hg HD
        go_wp2
        exact bodyPost_ret (v := .tuple #[.int .i64 a, .int .i64 (k : Int)]) (by simp [results, Tryz.results71, go_sem]) rfl ⟨by rw [HN.out], rfl⟩
    · have HN := HEnd.out (.inr (.inl (by apply List.drop_of_length_le; show s.size ≤ k; omega)))
      have hlt' : ¬ ((k : Int) < (s.size : Int)) := by omega
      clear hr HEnd HD
      go_wp2
      exact bodyPost_ret (v := .tuple #[.int .i64 a, .int .i64 (k : Int)]) (by simp [results, Tryz.results71, go_sem]) rfl ⟨by rw [HN.out], rfl⟩
end Go.Proofs.YtepdlghobopdbaaGreatDoor
