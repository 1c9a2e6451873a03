/-
  WALKS: lex.Tight.
-/
import Derived.Test.YtchkngabppmbkaaDoorLexZP
namespace Go.Proofs.YtchkngabppmbkaaDoor
open Go.RowKit

def prevT (l : List Lx.Tk) (k : Nat) : Option Lx.Tk := if k = 0 then none else l[k - 1]?
theorem prevT_next {l : List Lx.Tk} {k : Nat} {x : Lx.Tk} (h : l[k]? = some x) : prevT l (k + 1) = some x := by unfold prevT; rw [if_neg (by omega), Nat.add_sub_cancel]; exact h
theorem tks_neQ {l : List Lx.Tk} {i : Nat} (h : i < l.length) : l ≠ [] := by intro e; subst e; simp at h
theorem byteCells_sep : Lib.byteCells [32] = [.int .u8 32] := rfl

set_option maxRecDepth 100000 in
set_option maxHeartbeats 4000000 in
theorem tight_any (l : List Lx.Tk) (A : Option Addr) (c : Nat) (w : World) (hG : GV w) (hl : l.length ≤ 1152921504606846976) (hz : ∀ x ∈ l, x.text.size ≤ 3000) (hA : Tks w w.heap.size A l) :
    Calls Tryd.prog 29 #[.slice A l.length c] w fun e w' => e = .returned (.tuple #[.string (Lx.tightOf l).1, .int .i64 ((Lx.tightOf l).2 : Int)]) ∧ Below w.heap.size w w' := by
  have HE := Lib.hid (listError_any l A c w hG hl (fun x hx => by have := hz x hx; omega) hA)
  by_cases h0 : Lx.listErr l = 0
  · have h9 : l.length ≤ 900 := by
      unfold Lx.listErr at h0
      split at h0
      · cases h0
      · omega
    rw [Lx.tightOf, if_neg (by omega)]
    rw [h0] at HE
    obtain ⟨R, hR⟩ : ∃ R, Lx.tightF none l = R := ⟨_, rfl⟩
    rw [hR]
    have HR := Lib.hid hR
    obtain ⟨V, hV⟩ : ∃ V : ByteArray × Nat, (if 2500 < R.length then (⟨#[]⟩, 5) else (⟨R.toArray⟩, 0)) = V := ⟨_, rfl⟩
    rw [hV]
    have HV := Lib.hid hV; clear hV
    have HA := Lib.hid hA; have HZ := Lib.hid hz
    clear hR hA hz h0
    go_enter Tryd.func29, Tryd.ntmps29
    go_wp2_with (go_at_call 56; refine HE.out.mono ?_; rintro e w1 ⟨rfl, hB1⟩)
    have hBld : Lib.IsBuilder 80 5 w1.heap.size w1.heap.size [] (w1.alloc (.cells #[.pointer none, .slice none 0 0] 80)) := .inl ⟨Nat.le_refl _, .slice none 0 0, heap_alloc_new _ _, World.ownsRow_nil _ _ _ _, by simp [Value.ownBlock]⟩
    have hB2 : Below w1.heap.size w1 (w1.alloc (.cells #[.pointer none, .slice none 0 0] 80)) := (Below.refl _ _).alloc (Nat.le_refl _) _
    have hs2 : w1.heap.size < (w1.alloc (.cells #[.pointer none, .slice none 0 0] 80)).heap.size := by simp
    obtain ⟨W0, hW0⟩ : ∃ W0, w1.alloc (.cells #[.pointer none, .slice none 0 0] 80) = W0 := ⟨_, rfl⟩
    rw [hW0] at hBld hB2 hs2
    have HB1 := Lib.hid hB1
    have hTK : Hid (Tks w1 w1.heap.size A l) := (HA.out.below hB1).mono hB1.size
    rw [hW0]
    clear hB1 hW0
    go_loopw [15] (fun i wr => ∃ (k : Nat) (bs : List Value), k ≤ l.length ∧ i = .int .i64 k ∧ Hid (Lib.byteCells R = bs ++ Lib.byteCells (Lx.tightF (prevT l k) (l.drop k))) ∧ bs.length ≤ k * 4000 ∧ Hid (Lib.IsBuilder 80 5 w1.heap.size w1.heap.size bs wr) ∧ Below w1.heap.size W0 wr) (fun i _ => l.length - (intOf i).toNat)
    case atStart => exact ⟨0, [], Nat.zero_le _, rfl, by rw [Hid, ← HR.out]; rfl, by simp, hBld, Below.refl _ _⟩
    case round =>
      obtain ⟨k, bs, hk, rfl, hbs, hbl, hbd, hBr⟩ := hrel
      have hszr := hBr.size
      by_cases hlt : k < l.length
      · have hB02 := hB2.trans hBr
        obtain ⟨ba, oa, hAe, hba, hca⟩ := hTK.out.below hB02 (tks_neQ hlt)
        cases hAe
        obtain ⟨x, hx⟩ : ∃ x, l[k]? = some x := ⟨_, List.getElem?_eq_getElem hlt⟩
        obtain ⟨x1, x2, x3⟩ := hca k x hx
        have htx := HZ.out x (List.mem_of_getElem? hx)
        have hbs' := hbs.out
        rw [Lx.drop_of_get hx] at hbs'
        have HN := Lib.hid (prevT_next hx)
        have hbn := hbd.out
        have hb0 : Lib.IsBuilder 80 5 w1.heap.size w1.heap.size bs (wr.alloc (.cells #[.int .u8 x.kind, .string x.text, .int .i64 x.pos] 63)) := isBuilder_keep hbn ((Below.refl _ _).alloc (Nat.le_refl _) _)
        have hbne : wr.heap.size ≠ w1.heap.size := by omega
        have hBA : Below w1.heap.size wr (wr.alloc (.cells #[.int .u8 x.kind, .string x.text, .int .i64 x.pos] 63)) := (Below.refl _ _).alloc (by omega) _
        have hszA : w1.heap.size ≤ (wr.alloc (.cells #[.int .u8 x.kind, .string x.text, .int .i64 x.pos] 63)).heap.size := by simp; omega
        have ht8 : 63 ≠ 5 := by decide
        by_cases hk0 : k = 0
        · have hsep : Lx.tightF (prevT l k) (x :: l.drop (k + 1)) = x.text.data.toList ++ Lx.tightF (some x) (l.drop (k + 1)) := by unfold prevT; rw [if_pos hk0]; rfl
          rw [hsep] at hbs'
          have HBS := Lib.hid hbs'
          have hl1 : bs.length + x.text.size ≤ 140737488355328 := by omega
          have q0 : decide ((k : Int) > 0) = false := decide_eq_false (by omega)
          have q1 : ¬ 0 < k := by omega
          clear hbs hbs' hca hx hbd hsep hk0
          go_wp2
          go_quiet (fail)
          go_wp2_with (go_at_call 59; refine (writeString_any w1.heap.size w1.heap.size bs x.text _ (isBuilder_keep hb0 (below_drewN (Below.refl _ _) nq)) hl1 hszA).mono ?_; rintro e w3 ⟨rfl, h3, hB3, hO3⟩)
          go_roundw
          case rel =>
            refine ⟨k + 1, bs ++ Lib.strCells x.text, by omega, by go_num, ?_, ?_, .inr h3, ((hBr.trans hBA).trans (below_drewN (Below.refl _ _) nq)).trans hB3⟩
            · rw [Hid, HBS.out, HN.out, byteCells_append, List.append_assoc]; rfl
            · rw [List.length_append, Lib.strCells_length]; omega
          case measure => simp [intOf]; omega
        · obtain ⟨y, hy⟩ : ∃ y, l[k - 1]? = some y := ⟨_, List.getElem?_eq_getElem (by omega)⟩
          obtain ⟨y1, y2, y3⟩ := hca (k - 1) y hy
          have hpv : prevT l k = some y := by unfold prevT; rw [if_neg hk0]; exact hy
          have hsep : Lx.tightF (prevT l k) (x :: l.drop (k + 1)) = (if Lx.clashT y x then [32] else []) ++ (x.text.data.toList ++ Lx.tightF (some x) (l.drop (k + 1))) := by rw [hpv]; rfl
          rw [hsep] at hbs'
          have HC := Lib.hid (clash_any y x (wr.alloc (.cells #[.int .u8 x.kind, .string x.text, .int .i64 x.pos] 63)).drew)
          have hw1 : IntKind.i64.wrap ((k : Int) - 1) = ((k - 1 : Nat) : Int) := by rw [IntWalk.i64_in _ (by omega)]; omega
          have i1 : k - 1 < l.length := by omega
          have q1 : 0 < k := by omega
          have q2 : (0 : Int) < (k : Int) := by omega
          have q3 : (k : Int) > 0 := by omega
          have hBD : Below w1.heap.size wr (wr.alloc (.cells #[.int .u8 x.kind, .string x.text, .int .i64 x.pos] 63)).drew := hBA.drew
          have lba : ba < wr.heap.size := Nat.lt_of_lt_of_le hba (by omega)
          have y1a : (wr.alloc (.cells #[.int .u8 x.kind, .string x.text, .int .i64 x.pos] 63)).cell? ⟨ba, oa + (k - 1) * 3, none⟩ = some (.int .u8 y.kind) := (((Below.refl _ wr).alloc (Nat.le_refl _) _).cell (p := ⟨ba, _, none⟩) lba).trans y1
          have y2a : (wr.alloc (.cells #[.int .u8 x.kind, .string x.text, .int .i64 x.pos] 63)).cell? ⟨ba, oa + (k - 1) * 3 + 1, none⟩ = some (.string y.text) := (((Below.refl _ wr).alloc (Nat.le_refl _) _).cell (p := ⟨ba, _, none⟩) lba).trans y2
          have y3a : (wr.alloc (.cells #[.int .u8 x.kind, .string x.text, .int .i64 x.pos] 63)).cell? ⟨ba, oa + (k - 1) * 3 + 2, none⟩ = some (.int .i64 y.pos) := (((Below.refl _ wr).alloc (Nat.le_refl _) _).cell (p := ⟨ba, _, none⟩) lba).trans y3
          have m0 : (wr.alloc (.cells #[.int .u8 x.kind, .string x.text, .int .i64 x.pos] 63)).cell? ⟨wr.heap.size, 0, none⟩ = some (.int .u8 x.kind) := cells_new_at wr _ _ 0 _ rfl
          have m1 : (wr.alloc (.cells #[.int .u8 x.kind, .string x.text, .int .i64 x.pos] 63)).cell? ⟨wr.heap.size, 1, none⟩ = some (.string x.text) := cells_new_at wr _ _ 1 _ rfl
          have m2 : (wr.alloc (.cells #[.int .u8 x.kind, .string x.text, .int .i64 x.pos] 63)).cell? ⟨wr.heap.size, 2, none⟩ = some (.int .i64 x.pos) := cells_new_at wr _ _ 2 _ rfl
          have mh := heap_alloc_new wr (.cells #[.int .u8 x.kind, .string x.text, .int .i64 x.pos] 63)
          have mz : wr.heap.size < (wr.alloc (.cells #[.int .u8 x.kind, .string x.text, .int .i64 x.pos] 63)).heap.size := by simp
          cases hcl : Lx.clashT y x
          · rw [hcl, if_neg (by simp), List.nil_append] at hbs'
            rw [hcl] at HC
            have HBS := Lib.hid hbs'
            have hl1 : bs.length + x.text.size ≤ 140737488355328 := by omega
            clear hbs hbs' hca hx hy hbd hsep hpv hcl
            generalize k - 1 = k1 at *
            go_wp2
            generalize wr.alloc (.cells #[.int .u8 x.kind, .string x.text, .int .i64 x.pos] 63) = WA at *
            go_still_tail 9, (by kernel_rfl)
            change wpList _ _ _ _ _ WA.drew
            go_wp2_with (first
              | (go_at_call 57; refine HC.out.mono ?_; rintro e w2 ⟨rfl, hB3⟩; have n1 := (hB3.cell (p := ⟨wr.heap.size, 1, none⟩) (by simpa using mz)).trans m1)
              | (go_at_call 59; refine (writeString_any w1.heap.size w1.heap.size bs x.text _ (isBuilder_keep (isBuilder_keep hb0 (Below.refl _ _).drew) hB3) hl1 (Nat.le_trans hszA hB3.size)).mono ?_; rintro e w3 ⟨rfl, h3, hB4, hO3⟩))
            go_roundw
            case rel =>
              refine ⟨k + 1, bs ++ Lib.strCells x.text, by omega, by go_num, ?_, ?_, .inr h3, ((hBr.trans hBD).trans (hB3.mono (by simpa using hszA))).trans hB4⟩
              · rw [Hid, HBS.out, HN.out, byteCells_append, List.append_assoc]; rfl
              · rw [List.length_append, Lib.strCells_length]; omega
            case measure => simp [intOf]; omega
          · rw [hcl, if_pos rfl] at hbs'
            rw [hcl] at HC
            have HBS := Lib.hid hbs'
            have hl1 : (bs ++ [Value.int .u8 32]).length + x.text.size ≤ 140737488355328 := by simp; omega
            have hl0 : bs.length + 1 ≤ 140737488355328 := by omega
            clear hbs hbs' hca hx hy hbd hsep hpv hcl
            generalize k - 1 = k1 at *
            go_wp2
            generalize wr.alloc (.cells #[.int .u8 x.kind, .string x.text, .int .i64 x.pos] 63) = WA at *
            go_still_tail 9, (by kernel_rfl)
            change wpList _ _ _ _ _ WA.drew
            go_wp2_with (first
              | (go_at_call 57; refine HC.out.mono ?_; rintro e w2 ⟨rfl, hB3⟩; have n1 := (hB3.block wr.heap.size (by simpa using mz)).trans mh)
              | (go_at_call 58; refine (writeByte_any w1.heap.size w1.heap.size bs 32 _ (isBuilder_keep (isBuilder_keep hb0 (Below.refl _ _).drew) hB3) hl0 (Nat.le_trans hszA hB3.size)).mono ?_; rintro e w3 ⟨rfl, h3, hB4, hO3⟩; have n2 := hO3 _ _ _ _ hbne ht8 n1; have n3 : w3.cell? ⟨wr.heap.size, 1, none⟩ = some (.string x.text) := by rw [Lib.cell_of_heap n2]; rfl)
              | (go_at_call 59; refine (writeString_any w1.heap.size w1.heap.size _ x.text _ (.inr h3) hl1 (Nat.le_trans (Nat.le_trans hszA hB3.size) hB4.size)).mono ?_; rintro e w4 ⟨rfl, h4, hB5, hO4⟩))
            go_roundw
            case rel =>
              refine ⟨k + 1, bs ++ [.int .u8 32] ++ Lib.strCells x.text, by omega, by go_num, ?_, ?_, .inr h4, (((hBr.trans hBD).trans (hB3.mono (by simpa using hszA))).trans hB4).trans hB5⟩
              · rw [Hid, HBS.out, HN.out, byteCells_append, byteCells_append, List.append_assoc, List.append_assoc]; rfl
              · rw [List.length_append, List.length_append, Lib.strCells_length]; simp; omega
            case measure => simp [intOf]; omega
      · obtain rfl : k = l.length := by omega
        have hbs' := hbs.out
        rw [List.drop_length] at hbs'
        have hbs2 : Lib.byteCells R = bs := by rw [hbs']; simp [Lx.tightF, Lib.byteCells]
        subst hbs2
        have hRl : (Lib.byteCells R).length = R.length := by simp [Lib.byteCells]
        have hbn := hbd.out
        have hszA : w1.heap.size ≤ wr.heap.size := by omega
        clear hbs hbs' hbd
        by_cases h25 : 2500 < R.length
        · have q1 : decide (((Lib.byteCells R).length : Int) > 2500) = true := decide_eq_true (by omega)
          have HV2 : Hid (V = (⟨#[]⟩, 5)) := by rw [Hid, ← HV.out, if_pos h25]
          go_wp2_with (go_at_call 60; refine (builderLen_any w1.heap.size w1.heap.size (Lib.byteCells R) _ hbn).mono ?_; rintro e w3 ⟨rfl, rfl⟩)
          go_ret2
          exact ⟨by rw [HV2.out]; rfl, HB1.out.trans ((hB2.trans hBr).mono HB1.out.size)⟩
        · have q1 : decide (((Lib.byteCells R).length : Int) > 2500) = false := decide_eq_false (by omega)
          have HV2 : Hid (V = (⟨R.toArray⟩, 0)) := by rw [Hid, ← HV.out, if_neg h25]
          go_wp2_with (first
            | (go_at_call 60; refine (builderLen_any w1.heap.size w1.heap.size (Lib.byteCells R) _ hbn).mono ?_; rintro e w3 ⟨rfl, rfl⟩)
            | (go_at_call 61; refine (Tryd.Builder_String_any w1.heap.size w1.heap.size R _ hbn hszA).mono ?_; rintro e w4 ⟨rfl, hB4⟩))
          go_ret2
          exact ⟨by rw [HV2.out]; rfl, HB1.out.trans (((hB2.trans hBr).trans hB4).mono HB1.out.size)⟩
  · rw [Lx.tightOf, if_pos h0]
    have h0' : ((Lx.listErr l : Int) != 0) = true := by rw [bne_iff_ne]; omega
    generalize Lx.listErr l = er at *
    clear h0 hz
    go_enter Tryd.func29, Tryd.ntmps29
    go_wp2_with (go_at_call 56; refine HE.out.mono ?_; rintro e w1 ⟨rfl, hB1⟩)
    go_ret2
    exact ⟨rfl, hB1⟩
end Go.Proofs.YtchkngabppmbkaaDoor
