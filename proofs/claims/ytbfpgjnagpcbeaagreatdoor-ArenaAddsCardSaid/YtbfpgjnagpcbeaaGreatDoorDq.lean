/-
  WALKS: ArenaMoves.
-/
import Derived.Test.YtbfpgjnagpcbeaaGreatDoorDp
import Derived.Test.YtbfpgjnagpcbeaaGreatDoorDg
namespace Go.Proofs.YtbfpgjnagpcbeaaGreatDoor
open Go.RowKit Go.MapKept Go.Shelf

namespace Ar
theorem has_err (a : Are) (m : Mv) : hasErr a m = checkOf a := by
  unfold hasErr
  by_cases h : checkOf a = 0
  · rw [has_ref h, h]
    cases hasRef a m <;> rfl
  · have hf : findErr a m = checkOf a := by unfold findErr; rw [if_neg h]
    rw [hf, if_neg]
    unfold checkOf
    split
    · decide
    · split <;> decide
theorem ans_len (a : Are) (m : Mv) : (ansRef a m).length ≤ 1000000 := by
  unfold ansRef
  split
  · rename_i h0
    have hf : findErr a m = 0 := by
      by_cases h : findErr a m = 0
      · exact h
      · unfold ansErr at h0; rw [if_neg h] at h0; exact h0
    have := (places_short (right_of_check (findErr_zero hf).1) m.id m.arg m.kind).2
    omega
  · exact Nat.zero_le _
theorem und_len (a : Are) (m : Mv) : (undRef a m).length ≤ 1000000 := by
  unfold undRef
  split
  · rename_i h0
    have hf : findErr a m = 0 := by
      by_cases h : findErr a m = 0
      · exact h
      · unfold ansErr at h0; rw [if_neg h] at h0; exact h0
    have hr := right_of_check (findErr_zero hf).1
    unfold belowOf
    split
    · have h1 := belowArgs_len hr m.id (manyOf a m.id) 0
      have h2 : manyOf a m.id ≤ 5 := by
        unfold manyOf
        split
        · rename_i t ht
          exact hr.long t (List.mem_of_getElem? ht)
        · exact Nat.zero_le _
      omega
    · have h1 := belowIds_len hr a.ids.length 0
      have := hr.ids
      omega
  · exact Nat.zero_le _
end Ar
theorem ABc.drew {w : World} {a : Ar.Are} {A : Option Addr} {c : Nat} {m : Ar.Mv} {W : World} (h : ABc w a A c m W) : ABc w a A c m W.drew := ⟨h.1.drew, h.2⟩
/-- A list of moves that lies somewhere. -/
def Lies (l : List Ar.Mv) (v : Value) (W : World) : Prop := ∃ A c, v = .slice A l.length c ∧ Mvs W W.heap.size A l
theorem lies_of_own {W : World} {n₀ : Nat} {v : Value} {l : List Ar.Mv} (h : W.ownsRow n₀ 40 4 v l.length (mvsCells l)) : ∃ A c, v = .slice A l.length c ∧ Mvs W W.heap.size A l := by
  obtain ⟨ao, cap, rfl⟩ := own_form h
  exact ⟨ao, cap, rfl, mvs_of_own h⟩

theorem hasL {a : Ar.Are} {A : Option Addr} {c : Nat} {P : Nat → Option Addr × Nat} {W : World} (m : Ar.Mv) (h : ArM W A P a) : Calls Tryz.prog 27 #[.agg #[.slice A a.ids.length c, .bool a.root.cell, .int .i64 a.root.n, .bool a.jumps], .agg #[.int .i64 m.id, .int .i64 m.arg, .int .u8 m.kind, .int .i64 m.n]] W fun e w' => e = .returned (.tuple #[.bool (Ar.isRef a m), .int .i64 (Ar.checkOf a : Int)]) ∧ Below W.heap.size W w' :=
  (Has_any a A c P m W h).mono fun _ _ ⟨h1, h2⟩ => ⟨by rw [h1, Ar.has_eq, Ar.has_err], h2⟩
theorem otherL {a : Ar.Are} {A : Option Addr} {c : Nat} {P : Nat → Option Addr × Nat} {W : World} (m : Ar.Mv) (h : ArM W A P a) : Calls Tryz.prog 28 #[.agg #[.slice A a.ids.length c, .bool a.root.cell, .int .i64 a.root.n, .bool a.jumps], .agg #[.int .i64 m.id, .int .i64 m.arg, .int .u8 m.kind, .int .i64 m.n]] W fun e w' => e = .returned (.tuple #[.bool (Ar.whoseRef a m), .int .i64 (Ar.findErr a m : Int)]) ∧ Below W.heap.size W w' :=
  (isOther_any a A c P m W h).mono fun _ _ ⟨h1, h2⟩ => ⟨by rw [h1, Ar.whose_eq], h2⟩
theorem answersL {a : Ar.Are} {A : Option Addr} {c : Nat} {P : Nat → Option Addr × Nat} {W : World} (m : Ar.Mv) (h : ArM W A P a) : Calls Tryz.prog 29 #[.agg #[.slice A a.ids.length c, .bool a.root.cell, .int .i64 a.root.n, .bool a.jumps], .agg #[.int .i64 m.id, .int .i64 m.arg, .int .u8 m.kind, .int .i64 m.n]] W fun e w' => ∃ B d, e = .returned (.tuple #[.slice B (Ar.ansRef a m).length d, .int .i64 (Ar.ansErr a m : Int)]) ∧ Mvs w' w'.heap.size B (Ar.ansRef a m) ∧ Below W.heap.size W w' :=
  (Answers_any a A c P m W h).mono fun e w' ⟨v, h1, h2, h3⟩ => by
    rw [Ar.ans_eq] at h2
    obtain ⟨B, d, rfl, hm⟩ := lies_of_own h2
    exact ⟨B, d, by rw [h1, Ar.fq_eq], hm, h3⟩
theorem underL {a : Ar.Are} {A : Option Addr} {c : Nat} {P : Nat → Option Addr × Nat} {W : World} (m : Ar.Mv) (h : ArM W A P a) : Calls Tryz.prog 30 #[.agg #[.slice A a.ids.length c, .bool a.root.cell, .int .i64 a.root.n, .bool a.jumps], .agg #[.int .i64 m.id, .int .i64 m.arg, .int .u8 m.kind, .int .i64 m.n]] W fun e w' => ∃ B d, e = .returned (.tuple #[.slice B (Ar.undRef a m).length d, .int .i64 (Ar.ansErr a m : Int)]) ∧ Mvs w' w'.heap.size B (Ar.undRef a m) ∧ Below W.heap.size W w' :=
  (under_any a A c P m W h).mono fun e w' ⟨v, h1, h2, h3⟩ => by
    rw [Ar.und_eq] at h2
    obtain ⟨B, d, rfl, hm⟩ := lies_of_own h2
    exact ⟨B, d, by rw [h1, Ar.fq_eq], hm, h3⟩
theorem refAnswersL {a : Ar.Are} {A : Option Addr} {c : Nat} {P : Nat → Option Addr × Nat} {W : World} (m : Ar.Mv) (h : ArM W A P a) : Calls Tryz.prog 32 #[.agg #[.slice A a.ids.length c, .bool a.root.cell, .int .i64 a.root.n, .bool a.jumps], .agg #[.int .i64 m.id, .int .i64 m.arg, .int .u8 m.kind, .int .i64 m.n]] W fun e w' => ∃ B d, e = .returned (.tuple #[.slice B (Ar.ansRef a m).length d, .int .i64 (Ar.ansErr a m : Int)]) ∧ Mvs w' w'.heap.size B (Ar.ansRef a m) ∧ Below W.heap.size W w' :=
  (refAnswers_any a A c P m W h).mono fun e w' ⟨v, h1, h2, h3⟩ => by
    obtain ⟨B, d, rfl, hm⟩ := lies_of_own h2
    exact ⟨B, d, h1, hm, h3⟩
theorem refUnderL {a : Ar.Are} {A : Option Addr} {c : Nat} {P : Nat → Option Addr × Nat} {W : World} (m : Ar.Mv) (h : ArM W A P a) : Calls Tryz.prog 33 #[.agg #[.slice A a.ids.length c, .bool a.root.cell, .int .i64 a.root.n, .bool a.jumps], .agg #[.int .i64 m.id, .int .i64 m.arg, .int .u8 m.kind, .int .i64 m.n]] W fun e w' => ∃ B d, e = .returned (.tuple #[.slice B (Ar.undRef a m).length d, .int .i64 (Ar.ansErr a m : Int)]) ∧ Mvs w' w'.heap.size B (Ar.undRef a m) ∧ Below W.heap.size W w' :=
  (refUnder_any a A c P m W h).mono fun e w' ⟨v, h1, h2, h3⟩ => by
    obtain ⟨B, d, rfl, hm⟩ := lies_of_own h2
    exact ⟨B, d, h1, hm, h3⟩

set_option maxRecDepth 100000 in
set_option maxHeartbeats 16000000 in
theorem law_moves (a : Ar.Are) (A : Option Addr) (c : Nat) (P : Nat → Option Addr × Nat) (w : World) (hM : AreM w A c P a) (x y z u : Int) (hV : GV w) (hG : GT w) :
    Calls Tryz.prog 4 #[arV A c a, .agg #[.int .i64 x, .int .i64 y, .int .u8 z, .int .i64 u]] w fun e w' => e = .returned (.bool true) ∧ Below w.heap.size w w' := by
  obtain ⟨m, hm1, hm2, hm3, hm4⟩ : ∃ m : Ar.Mv, m.id = x ∧ m.arg = y ∧ m.kind = z ∧ m.n = u := ⟨⟨x, y, z, u⟩, rfl, rfl, rfl, rfl⟩
  subst hm1 hm2 hm3 hm4
  have hav : arV A c a = .agg #[.slice A a.ids.length c, .bool a.root.cell, .int .i64 a.root.n, .bool a.jumps] := rfl
  rw [hav]
  have HF := Lib.hid (AB.first w a A c m)
  obtain ⟨e0, e1, e2, e3, -, -, -, -⟩ := cells4 HF.out.arg
  obtain ⟨f0, f1, f2, f3, -, -, -, -⟩ := cells4 HF.out.mv
  have HA := Lib.hid (fun W (hB : Below w.heap.size w W) => awake_any W (hV.below hB) (hG.below hB))
  have HT := Lib.hid (thinL (hM.below HF.out.below))
  have HM := Lib.hid (fun W (hB : Below w.heap.size w W) => hM.below hB)
  clear hM hV hG hav
  cases ht : Ar.thinOf a
  · rw [ht] at HT
    clear ht
    go_enter Tryz.func4, Tryz.ntmps4
    go_wp2_with (first
      | (go_at_call 17; refine (HA.out _ hBw.out).mono ?_; rintro e w6 ⟨rfl, hB6⟩)
      | (go_at_call 16; refine HT.out.mono ?_; rintro e w2 ⟨rfl, hB2⟩; have hBw := Lib.hid (HF.out.below.trans (hB2.mono HF.out.below.size))))
    go_ret
    exact ⟨rfl, hBw.out.trans (hB6.mono hBw.out.size)⟩
  · rw [ht] at HT
    have HTH := Lib.hid ht
    have HCP := Lib.hid (fun W (hB : Below w.heap.size w W) => copyL (HM.out W hB) ht)
    have HHS := Lib.hid (fun (W : World) (B : Option Addr) (d : Nat) (Q : Nat → Option Addr × Nat) (h : ArM W B Q a) => hasL (c := d) m h)
    have HOT := Lib.hid (fun (W : World) (B : Option Addr) (d : Nat) (Q : Nat → Option Addr × Nat) (h : ArM W B Q a) => otherL (c := d) m h)
    have HAN := Lib.hid (fun (W : World) (B : Option Addr) (d : Nat) (Q : Nat → Option Addr × Nat) (h : ArM W B Q a) => answersL (c := d) m h)
    have HUN := Lib.hid (fun (W : World) (B : Option Addr) (d : Nat) (Q : Nat → Option Addr × Nat) (h : ArM W B Q a) => underL (c := d) m h)
    have HRW := Lib.hid (fun W (hB : Below w.heap.size w W) => refWhose_any a A c P m W ((HM.out W hB).m ht))
    have HRA := Lib.hid (fun W (hB : Below w.heap.size w W) => refAnswersL (c := c) m ((HM.out W hB).m ht))
    have HRU := Lib.hid (fun W (hB : Below w.heap.size w W) => refUnderL (c := c) m ((HM.out W hB).m ht))
    have HCK := Lib.hid (fun W (hB : Below w.heap.size w W) => refCheckL (c := c) ((HM.out W hB).m ht))
    have HRH := Lib.hid (fun W (hB : Below w.heap.size w W) (hr : Ar.Right a) => refHas_any a A c P m W ((HM.out W hB).m ht) hr)
    have hl1 := Ar.ans_len a m
    have hl2 := Ar.und_len a m
    have hie : Ar.isRef a m = (decide (Ar.checkOf a = 0) && Ar.hasRef a m) := rfl
    generalize Ar.whoseRef a m = OT at *
    generalize Ar.findErr a m = FE at *
    generalize Ar.ansErr a m = AE at *
    generalize Ar.ansRef a m = AL at *
    generalize Ar.undRef a m = UL at *
    clear ht
    by_cases hck : Ar.checkOf a = 0
    · have hrr := Ar.right_of_check hck
      have HRH := Lib.hid (fun W (hB : Below w.heap.size w W) => HRH.out W hB hrr)
      rw [hck, decide_eq_true rfl, Bool.true_and] at hie
      rw [hie] at HHS
      rw [hck] at HHS HCK
      clear hie hck hrr
      generalize Ar.hasRef a m = R at *
      go_enter Tryz.func4, Tryz.ntmps4
      go_wp2_with (go_at_call 16; refine HT.out.mono ?_; rintro e w2 ⟨rfl, hB2⟩; have hF2 := HF.out.next hB2)
      obtain ⟨x0, x1, x2, x3, -, -, -, -⟩ := cells4 hF2.arg
      obtain ⟨y0, y1, y2, y3, -, -, -, -⟩ := cells4 hF2.mv
      have hS2 : ABc w a A c m w2 := ⟨hF2.below, x0, x1, x2, x3, y0, y1, y2, y3⟩
      have HS2 := Lib.hid hS2.drew
      clear x0 x1 x2 x3 y0 y1 y2 y3 hS2 hF2 hB2 e0 e1 e2 e3 f0 f1 f2 f3
      go_region_held3 (fun w' => Below w.heap.size w w' ∧ w'.cell? ⟨w.heap.size, 0, none⟩ = some (.slice A a.ids.length c) ∧ w'.cell? ⟨w.heap.size, 1, none⟩ = some (.bool a.root.cell) ∧ w'.cell? ⟨w.heap.size, 2, none⟩ = some (.int .i64 a.root.n) ∧ w'.cell? ⟨w.heap.size, 3, none⟩ = some (.bool a.jumps) ∧
        w'.cell? ⟨w.heap.size + 1, 0, none⟩ = some (.int .i64 m.id) ∧ w'.cell? ⟨w.heap.size + 1, 1, none⟩ = some (.int .i64 m.arg) ∧ w'.cell? ⟨w.heap.size + 1, 2, none⟩ = some (.int .u8 m.kind) ∧ w'.cell? ⟨w.heap.size + 1, 3, none⟩ = some (.int .i64 m.n))
        (first
          | exact HS2.out
          | assumption
          | exact ABc.next (by assumption) hBc3
          | exact ABc.next (by assumption) hBd3
          | go_keep)
        ((first
          | (go_at_call 27; refine (HHS.out _ _ _ _ hMb3).mono ?_; rintro e wd3 ⟨rfl, hBd3⟩)
          | (go_at_call 18; refine (HCP.out _ (SI_below (by assumption))).mono ?_; rintro e wc3 ⟨Ab3, cb3, Pb3, rfl, hMb3, hBc3⟩)))
      have hS3 : ABc w a A c m wd3 := by assumption
      have HS3 := Lib.hid hS3.drew
      have HQ3 := Lib.hid hS3
      clear hS3
      go_wp2
      go_region_held3 (fun w' => Below w.heap.size w w' ∧ w'.cell? ⟨w.heap.size, 0, none⟩ = some (.slice A a.ids.length c) ∧ w'.cell? ⟨w.heap.size, 1, none⟩ = some (.bool a.root.cell) ∧ w'.cell? ⟨w.heap.size, 2, none⟩ = some (.int .i64 a.root.n) ∧ w'.cell? ⟨w.heap.size, 3, none⟩ = some (.bool a.jumps) ∧
        w'.cell? ⟨w.heap.size + 1, 0, none⟩ = some (.int .i64 m.id) ∧ w'.cell? ⟨w.heap.size + 1, 1, none⟩ = some (.int .i64 m.arg) ∧ w'.cell? ⟨w.heap.size + 1, 2, none⟩ = some (.int .u8 m.kind) ∧ w'.cell? ⟨w.heap.size + 1, 3, none⟩ = some (.int .i64 m.n))
        (first
          | exact HS3.out
          | assumption
          | exact ABc.next (by assumption) hBc4
          | exact ABc.next (by assumption) hBd4
          | go_keep)
        ((first
          | (go_at_call 28; refine (HOT.out _ _ _ _ hMb4).mono ?_; rintro e wd4 ⟨rfl, hBd4⟩)
          | (go_at_call 18; refine (HCP.out _ (SI_below (by assumption))).mono ?_; rintro e wc4 ⟨Ab4, cb4, Pb4, rfl, hMb4, hBc4⟩)))
      have hS4 : ABc w a A c m wd4 := by assumption
      have HS4 := Lib.hid hS4.drew
      have HQ4 := Lib.hid hS4
      clear hS4
      go_wp2
      go_region_held3 (fun w' => Below w.heap.size w w' ∧ w'.cell? ⟨w.heap.size, 0, none⟩ = some (.slice A a.ids.length c) ∧ w'.cell? ⟨w.heap.size, 1, none⟩ = some (.bool a.root.cell) ∧ w'.cell? ⟨w.heap.size, 2, none⟩ = some (.int .i64 a.root.n) ∧ w'.cell? ⟨w.heap.size, 3, none⟩ = some (.bool a.jumps) ∧
        w'.cell? ⟨w.heap.size + 1, 0, none⟩ = some (.int .i64 m.id) ∧ w'.cell? ⟨w.heap.size + 1, 1, none⟩ = some (.int .i64 m.arg) ∧ w'.cell? ⟨w.heap.size + 1, 2, none⟩ = some (.int .u8 m.kind) ∧ w'.cell? ⟨w.heap.size + 1, 3, none⟩ = some (.int .i64 m.n))
        (first
          | exact HS4.out
          | assumption
          | exact ABc.next (by assumption) hBc5
          | exact ABc.next (by assumption) hBd5
          | go_keep)
        ((first
          | (go_at_call 29; refine (HAN.out _ _ _ _ hMb5).mono ?_; rintro e wd5 ⟨B5, d5, rfl, hm5, hBd5⟩)
          | (go_at_call 18; refine (HCP.out _ (SI_below (by assumption))).mono ?_; rintro e wc5 ⟨Ab5, cb5, Pb5, rfl, hMb5, hBc5⟩)))
      have hS5 : ABc w a A c m wd5 := by assumption
      have HS5 := Lib.hid hS5.drew
      have HQ5 := Lib.hid hS5
      clear hS5
      go_wp2
      go_region_held3 (fun w' => Below w.heap.size w w' ∧ w'.cell? ⟨w.heap.size, 0, none⟩ = some (.slice A a.ids.length c) ∧ w'.cell? ⟨w.heap.size, 1, none⟩ = some (.bool a.root.cell) ∧ w'.cell? ⟨w.heap.size, 2, none⟩ = some (.int .i64 a.root.n) ∧ w'.cell? ⟨w.heap.size, 3, none⟩ = some (.bool a.jumps) ∧
        w'.cell? ⟨w.heap.size + 1, 0, none⟩ = some (.int .i64 m.id) ∧ w'.cell? ⟨w.heap.size + 1, 1, none⟩ = some (.int .i64 m.arg) ∧ w'.cell? ⟨w.heap.size + 1, 2, none⟩ = some (.int .u8 m.kind) ∧ w'.cell? ⟨w.heap.size + 1, 3, none⟩ = some (.int .i64 m.n))
        (first
          | exact HS5.out
          | assumption
          | exact ABc.next (by assumption) hBc6
          | exact ABc.next (by assumption) hBd6
          | go_keep)
        ((first
          | (go_at_call 30; refine (HUN.out _ _ _ _ hMb6).mono ?_; rintro e wd6 ⟨B6, d6, rfl, hm6, hBd6⟩)
          | (go_at_call 18; refine (HCP.out _ (SI_below (by assumption))).mono ?_; rintro e wc6 ⟨Ab6, cb6, Pb6, rfl, hMb6, hBc6⟩)))
      have hS6 : ABc w a A c m wd6 := by assumption
      have HS6 := Lib.hid hS6.drew
      have HQ6 := Lib.hid hS6
      clear hS6
      have HMA := Lib.hid ((Mvs.next (W := wd5.drew) hm5 hBc6).next hBd6)
      have HMU := Lib.hid hm6
      have hS := HQ6.out
      obtain ⟨-, x0, x1, x2, x3, y0, y1, y2, y3⟩ := HQ6.out
      go_wp2_with (first
        | (go_at_call 17; refine (HA.out _ hS.1).mono ?_; rintro e wa ⟨rfl, hBa⟩)
        | (go_at_call 25; have _t := hsw; refine (sameWord_any UL _ _ _ _ _ hl2 HMU.out HNU.out).mono ?_; rintro e wt ⟨rfl, hBt⟩; have hS := hS.next hBt)
        | (go_at_call 25; refine (sameWord_any AL _ _ _ _ _ hl1 HMA.out HNA.out).mono ?_; rintro e ws ⟨rfl, hBs⟩; have hS := hS.next hBs; have HMU := Lib.hid (HMU.out.next hBs); have HNU := Lib.hid (HNU.out.next hBs); have hsw := Lib.hid hBs)
        | (go_at_call 34; refine (HRH.out _ hS.1).mono ?_; rintro e wBh ⟨rfl, hBh⟩; have hS := hS.next hBh; have HMA := Lib.hid (HMA.out.next hBh); have HMU := Lib.hid (HMU.out.next hBh); have HNA := Lib.hid (HNA.out.next hBh); have HNU := Lib.hid (HNU.out.next hBh); have hSx := hS; obtain ⟨-, x0, x1, x2, x3, y0, y1, y2, y3⟩ := hSx)
        | (go_at_call 24; refine (HCK.out _ hS.1).mono ?_; rintro e wBk ⟨rfl, hBk⟩; have hS := hS.next hBk; have HMA := Lib.hid (HMA.out.next hBk); have HMU := Lib.hid (HMU.out.next hBk); have HNA := Lib.hid (HNA.out.next hBk); have HNU := Lib.hid (HNU.out.next hBk); have hSx := hS; obtain ⟨-, x0, x1, x2, x3, y0, y1, y2, y3⟩ := hSx)
        | (go_at_call 33; refine (HRU.out _ hS.1).mono ?_; rintro e wB9 ⟨B9, d9, rfl, hm9, hB9⟩; have hS := hS.next hB9; have HMA := Lib.hid (HMA.out.next hB9); have HMU := Lib.hid (HMU.out.next hB9); have HNA := Lib.hid (HNA.out.next hB9); have HNU := Lib.hid hm9; have hSx := hS; obtain ⟨-, x0, x1, x2, x3, y0, y1, y2, y3⟩ := hSx)
        | (go_at_call 32; refine (HRA.out _ hS.1).mono ?_; rintro e wB8 ⟨B8, d8, rfl, hm8, hB8⟩; have hS := hS.next hB8; have HMA := Lib.hid (HMA.out.next hB8); have HMU := Lib.hid (HMU.out.next hB8); have HNA := Lib.hid hm8; have hSx := hS; obtain ⟨-, x0, x1, x2, x3, y0, y1, y2, y3⟩ := hSx)
        | (go_at_call 31; refine (HRW.out _ hS.1).mono ?_; rintro e wB7 ⟨rfl, hB7⟩; have hS := hS.next hB7; have HMA := Lib.hid (HMA.out.next hB7); have HMU := Lib.hid (HMU.out.next hB7); have hSx := hS; obtain ⟨-, x0, x1, x2, x3, y0, y1, y2, y3⟩ := hSx))
      go_ret
      exact ⟨rfl, hS.1.trans (hBa.mono hS.1.size)⟩
    · rw [decide_eq_false hck, Bool.false_and] at hie
      rw [hie] at HHS
      have hne : ((Ar.checkOf a : Int) == 0) = false := by rw [beq_eq_false_iff_ne]; omega
      clear hie hck
      generalize Ar.checkOf a = CK at *
      go_enter Tryz.func4, Tryz.ntmps4
      go_wp2_with (go_at_call 16; refine HT.out.mono ?_; rintro e w2 ⟨rfl, hB2⟩; have hF2 := HF.out.next hB2)
      obtain ⟨x0, x1, x2, x3, -, -, -, -⟩ := cells4 hF2.arg
      obtain ⟨y0, y1, y2, y3, -, -, -, -⟩ := cells4 hF2.mv
      have hS2 : ABc w a A c m w2 := ⟨hF2.below, x0, x1, x2, x3, y0, y1, y2, y3⟩
      have HS2 := Lib.hid hS2.drew
      clear x0 x1 x2 x3 y0 y1 y2 y3 hS2 hF2 hB2 e0 e1 e2 e3 f0 f1 f2 f3
      go_region_held3 (fun w' => Below w.heap.size w w' ∧ w'.cell? ⟨w.heap.size, 0, none⟩ = some (.slice A a.ids.length c) ∧ w'.cell? ⟨w.heap.size, 1, none⟩ = some (.bool a.root.cell) ∧ w'.cell? ⟨w.heap.size, 2, none⟩ = some (.int .i64 a.root.n) ∧ w'.cell? ⟨w.heap.size, 3, none⟩ = some (.bool a.jumps) ∧
        w'.cell? ⟨w.heap.size + 1, 0, none⟩ = some (.int .i64 m.id) ∧ w'.cell? ⟨w.heap.size + 1, 1, none⟩ = some (.int .i64 m.arg) ∧ w'.cell? ⟨w.heap.size + 1, 2, none⟩ = some (.int .u8 m.kind) ∧ w'.cell? ⟨w.heap.size + 1, 3, none⟩ = some (.int .i64 m.n))
        (first
          | exact HS2.out
          | assumption
          | exact ABc.next (by assumption) hBc3
          | exact ABc.next (by assumption) hBd3
          | go_keep)
        ((first
          | (go_at_call 27; refine (HHS.out _ _ _ _ hMb3).mono ?_; rintro e wd3 ⟨rfl, hBd3⟩)
          | (go_at_call 18; refine (HCP.out _ (SI_below (by assumption))).mono ?_; rintro e wc3 ⟨Ab3, cb3, Pb3, rfl, hMb3, hBc3⟩)))
      have hS3 : ABc w a A c m wd3 := by assumption
      have HS3 := Lib.hid hS3.drew
      have HQ3 := Lib.hid hS3
      clear hS3
      go_wp2
      go_region_held3 (fun w' => Below w.heap.size w w' ∧ w'.cell? ⟨w.heap.size, 0, none⟩ = some (.slice A a.ids.length c) ∧ w'.cell? ⟨w.heap.size, 1, none⟩ = some (.bool a.root.cell) ∧ w'.cell? ⟨w.heap.size, 2, none⟩ = some (.int .i64 a.root.n) ∧ w'.cell? ⟨w.heap.size, 3, none⟩ = some (.bool a.jumps) ∧
        w'.cell? ⟨w.heap.size + 1, 0, none⟩ = some (.int .i64 m.id) ∧ w'.cell? ⟨w.heap.size + 1, 1, none⟩ = some (.int .i64 m.arg) ∧ w'.cell? ⟨w.heap.size + 1, 2, none⟩ = some (.int .u8 m.kind) ∧ w'.cell? ⟨w.heap.size + 1, 3, none⟩ = some (.int .i64 m.n))
        (first
          | exact HS3.out
          | assumption
          | exact ABc.next (by assumption) hBc4
          | exact ABc.next (by assumption) hBd4
          | go_keep)
        ((first
          | (go_at_call 28; refine (HOT.out _ _ _ _ hMb4).mono ?_; rintro e wd4 ⟨rfl, hBd4⟩)
          | (go_at_call 18; refine (HCP.out _ (SI_below (by assumption))).mono ?_; rintro e wc4 ⟨Ab4, cb4, Pb4, rfl, hMb4, hBc4⟩)))
      have hS4 : ABc w a A c m wd4 := by assumption
      have HS4 := Lib.hid hS4.drew
      have HQ4 := Lib.hid hS4
      clear hS4
      go_wp2
      go_region_held3 (fun w' => Below w.heap.size w w' ∧ w'.cell? ⟨w.heap.size, 0, none⟩ = some (.slice A a.ids.length c) ∧ w'.cell? ⟨w.heap.size, 1, none⟩ = some (.bool a.root.cell) ∧ w'.cell? ⟨w.heap.size, 2, none⟩ = some (.int .i64 a.root.n) ∧ w'.cell? ⟨w.heap.size, 3, none⟩ = some (.bool a.jumps) ∧
        w'.cell? ⟨w.heap.size + 1, 0, none⟩ = some (.int .i64 m.id) ∧ w'.cell? ⟨w.heap.size + 1, 1, none⟩ = some (.int .i64 m.arg) ∧ w'.cell? ⟨w.heap.size + 1, 2, none⟩ = some (.int .u8 m.kind) ∧ w'.cell? ⟨w.heap.size + 1, 3, none⟩ = some (.int .i64 m.n))
        (first
          | exact HS4.out
          | assumption
          | exact ABc.next (by assumption) hBc5
          | exact ABc.next (by assumption) hBd5
          | go_keep)
        ((first
          | (go_at_call 29; refine (HAN.out _ _ _ _ hMb5).mono ?_; rintro e wd5 ⟨B5, d5, rfl, hm5, hBd5⟩)
          | (go_at_call 18; refine (HCP.out _ (SI_below (by assumption))).mono ?_; rintro e wc5 ⟨Ab5, cb5, Pb5, rfl, hMb5, hBc5⟩)))
      have hS5 : ABc w a A c m wd5 := by assumption
      have HS5 := Lib.hid hS5.drew
      have HQ5 := Lib.hid hS5
      clear hS5
      go_wp2
      go_region_held3 (fun w' => Below w.heap.size w w' ∧ w'.cell? ⟨w.heap.size, 0, none⟩ = some (.slice A a.ids.length c) ∧ w'.cell? ⟨w.heap.size, 1, none⟩ = some (.bool a.root.cell) ∧ w'.cell? ⟨w.heap.size, 2, none⟩ = some (.int .i64 a.root.n) ∧ w'.cell? ⟨w.heap.size, 3, none⟩ = some (.bool a.jumps) ∧
        w'.cell? ⟨w.heap.size + 1, 0, none⟩ = some (.int .i64 m.id) ∧ w'.cell? ⟨w.heap.size + 1, 1, none⟩ = some (.int .i64 m.arg) ∧ w'.cell? ⟨w.heap.size + 1, 2, none⟩ = some (.int .u8 m.kind) ∧ w'.cell? ⟨w.heap.size + 1, 3, none⟩ = some (.int .i64 m.n))
        (first
          | exact HS5.out
          | assumption
          | exact ABc.next (by assumption) hBc6
          | exact ABc.next (by assumption) hBd6
          | go_keep)
        ((first
          | (go_at_call 30; refine (HUN.out _ _ _ _ hMb6).mono ?_; rintro e wd6 ⟨B6, d6, rfl, hm6, hBd6⟩)
          | (go_at_call 18; refine (HCP.out _ (SI_below (by assumption))).mono ?_; rintro e wc6 ⟨Ab6, cb6, Pb6, rfl, hMb6, hBc6⟩)))
      have hS6 : ABc w a A c m wd6 := by assumption
      have HS6 := Lib.hid hS6.drew
      have HQ6 := Lib.hid hS6
      clear hS6
      have HMA := Lib.hid ((Mvs.next (W := wd5.drew) hm5 hBc6).next hBd6)
      have HMU := Lib.hid hm6
      have hS := HQ6.out
      obtain ⟨-, x0, x1, x2, x3, y0, y1, y2, y3⟩ := HQ6.out
      go_wp2_with (first
        | (go_at_call 17; refine (HA.out _ hS.1).mono ?_; rintro e wa ⟨rfl, hBa⟩)
        | (go_at_call 25; have _t := hsw; refine (sameWord_any UL _ _ _ _ _ hl2 HMU.out HNU.out).mono ?_; rintro e wt ⟨rfl, hBt⟩; have hS := hS.next hBt)
        | (go_at_call 25; refine (sameWord_any AL _ _ _ _ _ hl1 HMA.out HNA.out).mono ?_; rintro e ws ⟨rfl, hBs⟩; have hS := hS.next hBs; have HMU := Lib.hid (HMU.out.next hBs); have HNU := Lib.hid (HNU.out.next hBs); have hsw := Lib.hid hBs)
        | (go_at_call 24; refine (HCK.out _ hS.1).mono ?_; rintro e wBk ⟨rfl, hBk⟩; have hS := hS.next hBk; have HMA := Lib.hid (HMA.out.next hBk); have HMU := Lib.hid (HMU.out.next hBk); have HNA := Lib.hid (HNA.out.next hBk); have HNU := Lib.hid (HNU.out.next hBk); have hSx := hS; obtain ⟨-, x0, x1, x2, x3, y0, y1, y2, y3⟩ := hSx)
        | (go_at_call 33; refine (HRU.out _ hS.1).mono ?_; rintro e wB9 ⟨B9, d9, rfl, hm9, hB9⟩; have hS := hS.next hB9; have HMA := Lib.hid (HMA.out.next hB9); have HMU := Lib.hid (HMU.out.next hB9); have HNA := Lib.hid (HNA.out.next hB9); have HNU := Lib.hid hm9; have hSx := hS; obtain ⟨-, x0, x1, x2, x3, y0, y1, y2, y3⟩ := hSx)
        | (go_at_call 32; refine (HRA.out _ hS.1).mono ?_; rintro e wB8 ⟨B8, d8, rfl, hm8, hB8⟩; have hS := hS.next hB8; have HMA := Lib.hid (HMA.out.next hB8); have HMU := Lib.hid (HMU.out.next hB8); have HNA := Lib.hid hm8; have hSx := hS; obtain ⟨-, x0, x1, x2, x3, y0, y1, y2, y3⟩ := hSx)
        | (go_at_call 31; refine (HRW.out _ hS.1).mono ?_; rintro e wB7 ⟨rfl, hB7⟩; have hS := hS.next hB7; have HMA := Lib.hid (HMA.out.next hB7); have HMU := Lib.hid (HMU.out.next hB7); have hSx := hS; obtain ⟨-, x0, x1, x2, x3, y0, y1, y2, y3⟩ := hSx))
      go_ret
      exact ⟨rfl, hS.1.trans (hBa.mono hS.1.size)⟩
end Go.Proofs.YtbfpgjnagpcbeaaGreatDoor
