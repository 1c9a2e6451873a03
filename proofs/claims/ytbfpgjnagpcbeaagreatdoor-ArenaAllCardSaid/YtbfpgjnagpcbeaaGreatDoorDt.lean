/-
  WALKS: ArenaSides.
-/
import Derived.Test.YtbfpgjnagpcbeaaGreatDoorDs
namespace Go.Proofs.YtbfpgjnagpcbeaaGreatDoor
open Go.RowKit Go.MapKept Go.Shelf

theorem answersN {a : Ar.Are} {A : Option Addr} {c : Nat} {P : Nat → Option Addr × Nat} {W : World} (m : Ar.Mv) (h : ArM W A P a) : Calls Tryz.prog 29 #[.agg #[.slice A a.ids.length c, .bool a.root.cell, .int .i64 a.root.n, .bool a.jumps], .agg #[.int .i64 m.id, .int .i64 m.arg, .int .u8 m.kind, .int .i64 m.n]] W fun e w' => ∃ B d, e = .returned (.tuple #[.slice B (Ar.ansRef a m).length d, .int .i64 (Ar.ansErr a m : Int)]) ∧ Mvs w' w'.heap.size B (Ar.ansRef a m) ∧ (B = none → d = 0 ∧ (Ar.ansRef a m).length = 0) ∧ Below W.heap.size W w' :=
  (Answers_any a A c P m W h).mono fun e w' ⟨v, h1, h2, h3⟩ => by
    rw [Ar.ans_eq] at h2
    obtain ⟨B, d, rfl⟩ := own_form h2
    exact ⟨B, d, by rw [h1, Ar.fq_eq], mvs_of_own h2, own_nilc h2 rfl, h3⟩
theorem underN {a : Ar.Are} {A : Option Addr} {c : Nat} {P : Nat → Option Addr × Nat} {W : World} (m : Ar.Mv) (h : ArM W A P a) : Calls Tryz.prog 30 #[.agg #[.slice A a.ids.length c, .bool a.root.cell, .int .i64 a.root.n, .bool a.jumps], .agg #[.int .i64 m.id, .int .i64 m.arg, .int .u8 m.kind, .int .i64 m.n]] W fun e w' => ∃ B d, e = .returned (.tuple #[.slice B (Ar.undRef a m).length d, .int .i64 (Ar.ansErr a m : Int)]) ∧ Mvs w' w'.heap.size B (Ar.undRef a m) ∧ (B = none → d = 0 ∧ (Ar.undRef a m).length = 0) ∧ Below W.heap.size W w' :=
  (under_any a A c P m W h).mono fun e w' ⟨v, h1, h2, h3⟩ => by
    rw [Ar.und_eq] at h2
    obtain ⟨B, d, rfl⟩ := own_form h2
    exact ⟨B, d, by rw [h1, Ar.fq_eq], mvs_of_own h2, own_nilc h2 rfl, h3⟩
theorem bel_next {W0 W W' : World} (h : Below W0.heap.size W0 W) (hB : Below W.heap.size W W') : Below W0.heap.size W0 W' := h.trans (hB.mono h.size)
theorem bel_nextD {W0 W W' : World} (h : Below W0.heap.size W0 W) (hB : Below W.drew.heap.size W.drew W') : Below W0.heap.size W0 W' := h.drew.trans (hB.mono h.size)
theorem below_app {W W1 W2 : World} {base n size : Nat} {e : TypeId} {v : Value} {xs : List Value} (hown : W1.ownsRow base e size v n xs) (hB : Below base W W1) (hs : base ≤ W1.heap.size) (hg : W1.grownBy W2 v.ownBlock) : Below base W W2 :=
  hB.grown hg hs (fun j e => by have := own_low hown e; omega)
theorem mvs_app {W : World} {base c k : Nat} {A : Option Addr} {l l' : List Ar.Mv} (h : W.ownsRow base 40 4 (.slice A k c) k (([] ++ mvsCells l) ++ mvsCells l')) (hk : k = (l ++ l').length) : Mvs W W.heap.size A (l ++ l') := by
  subst hk
  rw [List.nil_append] at h
  refine mvs_of_own (c := c) (k := (l ++ l').length) (n₀ := base) ?_
  unfold mvsCells at h ⊢
  rw [List.flatMap_append]
  exact h
/-- An arena in the call's first block, and a move in a list. -/
def OL (w : World) (a : Ar.Are) (A : Option Addr) (c b off i : Nat) (x : Ar.Mv) (W : World) : Prop := Below w.heap.size w W ∧ W.cell? ⟨w.heap.size, 0, none⟩ = some (.slice A a.ids.length c) ∧ W.cell? ⟨w.heap.size, 1, none⟩ = some (.bool a.root.cell) ∧ W.cell? ⟨w.heap.size, 2, none⟩ = some (.int .i64 a.root.n) ∧ W.cell? ⟨w.heap.size, 3, none⟩ = some (.bool a.jumps) ∧
  W.cell? ⟨b, off + i * 4, none⟩ = some (.int .i64 x.id) ∧ W.cell? ⟨b, off + i * 4 + 1, none⟩ = some (.int .i64 x.arg) ∧ W.cell? ⟨b, off + i * 4 + 2, none⟩ = some (.int .u8 x.kind) ∧ W.cell? ⟨b, off + i * 4 + 3, none⟩ = some (.int .i64 x.n)
theorem OL.next {w : World} {a : Ar.Are} {A : Option Addr} {c b off i : Nat} {x : Ar.Mv} {W W' : World} (h : OL w a A c b off i x W) (hB : Below W.heap.size W W') : OL w a A c b off i x W' := by
  obtain ⟨h0, x0, x1, x2, x3, y0, y1, y2, y3⟩ := h
  exact ⟨h0.trans (hB.mono h0.size), keep_cell hB x0, keep_cell hB x1, keep_cell hB x2, keep_cell hB x3, keep_cell hB y0, keep_cell hB y1, keep_cell hB y2, keep_cell hB y3⟩
theorem OL.drew {w : World} {a : Ar.Are} {A : Option Addr} {c b off i : Nat} {x : Ar.Mv} {W : World} (h : OL w a A c b off i x W) : OL w a A c b off i x W.drew := ⟨h.1.drew, h.2⟩

set_option maxRecDepth 100000 in
set_option maxHeartbeats 16000000 in
theorem law_sides (a : Ar.Are) (A : Option Addr) (c : Nat) (P : Nat → Option Addr × Nat) (w : World) (hM : AreM w A c P a) (hV : GV w) (hG : GT w) :
    Calls Tryz.prog 11 #[arV A c a] w fun e w' => e = .returned (.bool true) ∧ Below w.heap.size w w' := by
  have hav : arV A c a = .agg #[.slice A a.ids.length c, .bool a.root.cell, .int .i64 a.root.n, .bool a.jumps] := rfl
  rw [hav]
  obtain ⟨i0, hi, hz0, hz1, hz2⟩ := info_parts infoMv
  have HF := Lib.hid (OA.first w a A c)
  obtain ⟨e0, e1, e2, e3, -, -, -, -⟩ := cells4 HF.out.arg
  have HA := Lib.hid (fun W (hB : Below w.heap.size w W) => awake_any W (hV.below hB) (hG.below hB))
  have HS := Lib.hid (small_any a A c P _ (hM.below HF.out.below))
  have HM := Lib.hid (fun W (hB : Below w.heap.size w W) => hM.below hB)
  clear hM hV hG hav
  cases hs : Ar.smallOf a
  · rw [hs] at HS
    clear hs
    go_enter Tryz.func11, Tryz.ntmps11
    go_wp2_with (first
      | (go_at_call 17; refine (HA.out _ hF2.below).mono ?_; rintro e w6 ⟨rfl, hB6⟩)
      | (go_at_call 50; refine HS.out.mono ?_; rintro e w2 ⟨rfl, hB2⟩; have hF2 := HF.out.next hB2))
    go_ret
    exact ⟨rfl, hF2.below.trans (hB6.mono hF2.below.size)⟩
  · rw [hs] at HS
    obtain ⟨ht, hck, h300⟩ := Ar.small_parts hs
    have HMV := Lib.hid (fun W (hB : Below w.heap.size w W) => lawMoves_any a A c P W (HM.out W hB) ht hck h300)
    have HCP := Lib.hid (fun W (hB : Below w.heap.size w W) => copyL (HM.out W hB) ht)
    have HW := Lib.hid (fun (m : Ar.Mv) (hf : Ar.findErr a m = 0) W (hB : Below w.heap.size w W) => lawWhose_any a A c P m W (HM.out W hB) ht hf)
    have HIN := Lib.hid (fun (x : Ar.Mv) (hx : x ∈ Ar.allOf a) => Ar.in_arena hck (Ar.all_cell (Ar.right_of_check hck) hx))
    have HSD := Lib.hid (fun (m x : Ar.Mv) (hx : x ∈ Ar.ansRef a m ++ Ar.undRef a m) => Ar.sides hck hx)
    have HLN := Lib.hid (fun (m : Ar.Mv) => Ar.both_len (m := m) hck)
    clear hs ht hck HM
    generalize Ar.allOf a = AL at *
    go_enter Tryz.func11, Tryz.ntmps11
    go_wp2_with (first
      | (go_at_call 51; refine (HMV.out _ hF2.below).mono ?_; rintro e w3 ⟨B, d, rfl, hm3, hB3⟩; have hF3 := Lib.hid (hF2.next hB3); have HM3 := Lib.hid hm3)
      | (go_at_call 50; refine HS.out.mono ?_; rintro e w2 ⟨rfl, hB2⟩; have hF2 := HF.out.next hB2; obtain ⟨x0, x1, x2, x3, -, -, -, -⟩ := cells4 hF2.arg))
    clear hm3 hB3 hF2 hB2 x0 x1 x2 x3 e0 e1 e2 e3 HS HMV
    go_loopw [5] (fun i wr => ∃ (j : Nat), j ≤ AL.length ∧ i = .int .i64 (j : Int) ∧ Hid (Below w3.heap.size w3 wr)) (fun i _ => AL.length - (intOf i).toNat)
    case atStart => exact ⟨0, Nat.zero_le _, rfl, Below.refl _ _⟩
    case round =>
      obtain ⟨j, hj, rfl, hB⟩ := hrel
      have hFr := Lib.hid (hF3.out.next hB.out)
      by_cases hlt : j < AL.length
      · obtain ⟨x, hx⟩ : ∃ x, AL[j]? = some x := ⟨_, List.getElem?_eq_getElem hlt⟩
        obtain ⟨b, off, hAe, hbB, hc⟩ := (HM3.out.below hB.out) (by intro e; rw [e] at hlt; simp at hlt)
        obtain ⟨c0, c1, c2, c3⟩ := hc j x hx
        obtain ⟨x0, x1, x2, x3, -, -, -, -⟩ := cells4 hFr.out.arg
        have hf := HIN.out x (List.mem_of_getElem? hx)
        have hS9 : OL w a A c b off j x wr := ⟨hFr.out.below, x0, x1, x2, x3, c0, c1, c2, c3⟩
        have HS9 := Lib.hid hS9.drew
        have HWX := Lib.hid (fun W (hB : Below w.heap.size w W) => HW.out x hf W hB)
        have HAN := Lib.hid (fun (W : World) (B : Option Addr) (d : Nat) (Q : Nat → Option Addr × Nat) (h : ArM W B Q a) => answersN (c := d) x h)
        have HUN := Lib.hid (fun (W : World) (B : Option Addr) (d : Nat) (Q : Nat → Option Addr × Nat) (h : ArM W B Q a) => underN (c := d) x h)
        have HSX := Lib.hid (fun (y : Ar.Mv) (hy : y ∈ Ar.ansRef a x ++ Ar.undRef a x) => HSD.out x y hy)
        have HEE := Lib.hid (Ar.ans_two hf)
        have HK0 := Lib.hid (fun h => Ar.ans_some (a := a) (m := x) h)
        obtain ⟨hl1, hl2⟩ := HLN.out x
        have hle : ((j : Int) < (AL.length : Int)) := by omega
        have hw2 : IntKind.i64.wrap (j : Int) = (j : Int) := IntWalk.i64_in _ (by omega)
        have hb0 : (0 : Int) ≤ (j : Int) := by omega
        have hb2 : (j : Int) ≤ (AL.length : Int) := by omega
        clear hx hc x0 x1 x2 x3 c0 c1 c2 c3 hf hS9
        subst hAe
        generalize Ar.otherRef x = OX at *
        generalize Ar.ansErr a x = E at *
        generalize Ar.ansRef a x = KL at *
        generalize Ar.undRef a x = UL at *
        go_wp2
        go_region_held3 (fun w' => Below w.heap.size w w' ∧ w'.cell? ⟨w.heap.size, 0, none⟩ = some (.slice A a.ids.length c) ∧ w'.cell? ⟨w.heap.size, 1, none⟩ = some (.bool a.root.cell) ∧ w'.cell? ⟨w.heap.size, 2, none⟩ = some (.int .i64 a.root.n) ∧ w'.cell? ⟨w.heap.size, 3, none⟩ = some (.bool a.jumps) ∧
        w'.cell? ⟨b, off + j * 4, none⟩ = some (.int .i64 x.id) ∧ w'.cell? ⟨b, off + j * 4 + 1, none⟩ = some (.int .i64 x.arg) ∧ w'.cell? ⟨b, off + j * 4 + 2, none⟩ = some (.int .u8 x.kind) ∧ w'.cell? ⟨b, off + j * 4 + 3, none⟩ = some (.int .i64 x.n))
          (first
            | exact HS9.out
            | assumption
            | exact OL.next (by assumption) hBd9
            | go_keep)
          ((go_at_call 52; refine (HWX.out _ (SI_below (by assumption))).mono ?_; rintro e wd9 ⟨rfl, hBd9⟩))
        have HB9 := Lib.hid (bel_nextD hB.out hBd9)
        have hS10 : OL w a A c b off j x wd9 := by assumption
        have HS10 := Lib.hid hS10.drew
        clear hS10
        go_wp2
        go_region_held3 (fun w' => Below w.heap.size w w' ∧ w'.cell? ⟨w.heap.size, 0, none⟩ = some (.slice A a.ids.length c) ∧ w'.cell? ⟨w.heap.size, 1, none⟩ = some (.bool a.root.cell) ∧ w'.cell? ⟨w.heap.size, 2, none⟩ = some (.int .i64 a.root.n) ∧ w'.cell? ⟨w.heap.size, 3, none⟩ = some (.bool a.jumps) ∧
        w'.cell? ⟨b, off + j * 4, none⟩ = some (.int .i64 x.id) ∧ w'.cell? ⟨b, off + j * 4 + 1, none⟩ = some (.int .i64 x.arg) ∧ w'.cell? ⟨b, off + j * 4 + 2, none⟩ = some (.int .u8 x.kind) ∧ w'.cell? ⟨b, off + j * 4 + 3, none⟩ = some (.int .i64 x.n))
          (first
            | exact HS10.out
            | assumption
            | exact OL.next (by assumption) hBc12
            | exact OL.next (by assumption) hBd12
            | go_keep)
          ((first
            | (go_at_call 29; refine (HAN.out _ _ _ _ hMb12).mono ?_; rintro e wd12 ⟨B12, d12, rfl, hm12, hn12, hBd12⟩)
            | (go_at_call 18; refine (HCP.out _ (SI_below (by assumption))).mono ?_; rintro e wc12 ⟨Ab12, cb12, Pb12, rfl, hMb12, hBc12⟩)))
        have HB12 := Lib.hid (bel_next (bel_nextD HB9.out hBc12) hBd12)
        have hS12 : OL w a A c b off j x wd12 := by assumption
        have HS12 := Lib.hid hS12.drew
        clear hS12
        go_wp2
        go_region_held3 (fun w' => Below w.heap.size w w' ∧ w'.cell? ⟨w.heap.size, 0, none⟩ = some (.slice A a.ids.length c) ∧ w'.cell? ⟨w.heap.size, 1, none⟩ = some (.bool a.root.cell) ∧ w'.cell? ⟨w.heap.size, 2, none⟩ = some (.int .i64 a.root.n) ∧ w'.cell? ⟨w.heap.size, 3, none⟩ = some (.bool a.jumps) ∧
        w'.cell? ⟨b, off + j * 4, none⟩ = some (.int .i64 x.id) ∧ w'.cell? ⟨b, off + j * 4 + 1, none⟩ = some (.int .i64 x.arg) ∧ w'.cell? ⟨b, off + j * 4 + 2, none⟩ = some (.int .u8 x.kind) ∧ w'.cell? ⟨b, off + j * 4 + 3, none⟩ = some (.int .i64 x.n))
          (first
            | exact HS12.out
            | assumption
            | exact OL.next (by assumption) hBc13
            | exact OL.next (by assumption) hBd13
            | go_keep)
          ((first
            | (go_at_call 30; refine (HUN.out _ _ _ _ hMb13).mono ?_; rintro e wd13 ⟨B13, d13, rfl, hm13, hn13, hBd13⟩)
            | (go_at_call 18; refine (HCP.out _ (SI_below (by assumption))).mono ?_; rintro e wc13 ⟨Ab13, cb13, Pb13, rfl, hMb13, hBc13⟩)))
        have HB13 := Lib.hid (bel_next (bel_nextD HB12.out hBc13) hBd13)
        have hS13 : OL w a A c b off j x wd13 := by assumption
        have HS13 := Lib.hid hS13
        have HM12 := Lib.hid ((Mvs.next (W := wd12.drew) hm12 hBc13).next hBd13)
        have HM13 := Lib.hid hm13
        clear hS13 hm12 hm13 hMb12 hMb13 hBc12 hBc13 hBd12 hBd13 hBd9
        obtain ⟨KU, hKU⟩ : ∃ l : List Ar.Mv, l = KL ++ UL := ⟨_, rfl⟩
        have hku : KL.length + UL.length = KU.length := by rw [hKU, List.length_append]
        rw [← hKU] at HSX
        have HKU := Lib.hid hKU
        clear hKU
        have hws : IntKind.i64.wrap ((KL.length : Int) + (UL.length : Int)) = (KL.length : Int) + (UL.length : Int) := IntWalk.i64_in _ (by omega)
        have hg6 : ¬ (600 < (KL.length : Int) + (UL.length : Int)) := by omega
        have hk0 := HK0.out
        rcases HEE.out with hE | hE
        all_goals subst hE
        all_goals try have hk1 : ((KL.length : Int) == 0) = false := by rw [beq_eq_false_iff_ne]; have := hk0 rfl; omega
        all_goals clear hk0
        all_goals
          go_wp2_with (first
            | (at_builtin; refine wpList_append_any _ rfl _ _ 32 rfl wd13.heap.size 40 i0 (.agg #[.int .i64 0, .int .i64 0, .int .u8 0, .int .i64 0]) 4 32 Tryz.underlying32 hi hz0 hz1 hz2 rfl (by decide) _ _ _ rfl hown7 B13 UL.length d13 KU.length hku (mvsCells UL) rfl hn13 (mvsCells_len _) (mvsCells_at (HM13.out.below hB7)) (mvsCells_one _) (by unfold maxLen; omega) (by omega) hB7.size ?_; intro A8 c8 w8 hown8 hgrow8)
            | (at_builtin; refine wpList_append_any _ rfl _ _ 32 rfl wd13.heap.size 40 i0 (.agg #[.int .i64 0, .int .i64 0, .int .u8 0, .int .i64 0]) 4 32 Tryz.underlying32 hi hz0 hz1 hz2 rfl (by decide) _ _ _ rfl (World.ownsRow_lit wd13 #[] 0 (Nat.le_refl _) (Nat.zero_le _) rfl) B12 KL.length d12 KL.length (Nat.zero_add _) (mvsCells KL) rfl hn12 (mvsCells_len _) (mvsCells_at (HM12.out.below ((Below.refl _ _).alloc (Nat.le_refl _) _))) (mvsCells_one _) (by unfold maxLen; omega) (by omega) ((Below.refl wd13.heap.size wd13).alloc (Nat.le_refl _) _).size ?_; intro A7 c7 w7 hown7 hgrow7; have hB7 := below_app (size := 4) (World.ownsRow_lit wd13 #[] 0 (Nat.le_refl _) (Nat.zero_le _) rfl) ((Below.refl wd13.heap.size wd13).alloc (Nat.le_refl _) _) ((Below.refl wd13.heap.size wd13).alloc (Nat.le_refl _) _).size hgrow7))
        all_goals
          have hB8 := below_app hown7 hB7 hB7.size hgrow8
          have HM8 := Lib.hid (mvs_app hown8 (by rw [← HKU.out]))
          rw [← HKU.out] at HM8
          have HB8 := Lib.hid (bel_next HB13.out hB8)
          have HS8 := Lib.hid (HS13.out.next hB8)
          clear hown7 hown8 hgrow7 hgrow8 hB7 hB8
        all_goals
          go_loopw [12] (fun i wr' => ∃ (n : Nat), n ≤ KU.length ∧ i = .int .i64 (n : Int) ∧ Hid (Below w8.heap.size w8 wr')) (fun i _ => KU.length - (intOf i).toNat)
          case atStart => exact ⟨0, Nat.zero_le _, rfl, Below.refl _ _⟩
          case round =>
            obtain ⟨n, hn, rfl, hB'⟩ := hrel
            by_cases hln : n < KU.length
            · obtain ⟨y, hy⟩ : ∃ y, KU[n]? = some y := ⟨_, List.getElem?_eq_getElem hln⟩
              obtain ⟨b', off', hAe', hbB', hc'⟩ := (HM8.out.below hB'.out) (by intro e; rw [e] at hln; simp at hln)
              obtain ⟨c0, c1, c2, c3⟩ := hc' n y hy
              obtain ⟨hfy, hoy⟩ := HSX.out y (List.mem_of_getElem? hy)
              have hSr := HS8.out.next hB'.out
              obtain ⟨z0, z1, z2, z3, z4, -⟩ := hSr
              have hS20 : OL w a A c b' off' n y wr := ⟨z0, z1, z2, z3, z4, c0, c1, c2, c3⟩
              have HS20 := Lib.hid hS20.drew
              have hwy := fun W (hB : Below w.heap.size w W) => HW.out y hfy W hB
              rw [hoy] at hwy
              have HWY := Lib.hid hwy
              have hle' : ((n : Int) < (KU.length : Int)) := by omega
              have hw2' : IntKind.i64.wrap (n : Int) = (n : Int) := IntWalk.i64_in _ (by omega)
              have hb0' : (0 : Int) ≤ (n : Int) := by omega
              have hb2' : (n : Int) ≤ (KU.length : Int) := by omega
              clear hy hc' c0 c1 c2 c3 hfy hoy hwy z0 z1 z2 z3 z4 hS20
              subst hAe'
              go_wp2
              go_region_held3 (fun w' => Below w.heap.size w w' ∧ w'.cell? ⟨w.heap.size, 0, none⟩ = some (.slice A a.ids.length c) ∧ w'.cell? ⟨w.heap.size, 1, none⟩ = some (.bool a.root.cell) ∧ w'.cell? ⟨w.heap.size, 2, none⟩ = some (.int .i64 a.root.n) ∧ w'.cell? ⟨w.heap.size, 3, none⟩ = some (.bool a.jumps) ∧
        w'.cell? ⟨b', off' + n * 4, none⟩ = some (.int .i64 y.id) ∧ w'.cell? ⟨b', off' + n * 4 + 1, none⟩ = some (.int .i64 y.arg) ∧ w'.cell? ⟨b', off' + n * 4 + 2, none⟩ = some (.int .u8 y.kind) ∧ w'.cell? ⟨b', off' + n * 4 + 3, none⟩ = some (.int .i64 y.n))
                (first
                  | exact HS20.out
                  | assumption
                  | exact OL.next (by assumption) hBd20
                  | go_keep)
                ((go_at_call 52; refine (HWY.out _ (SI_below (by assumption))).mono ?_; rintro e wd20 ⟨rfl, hBd20⟩))
              cases OX
              all_goals go_wp2
              all_goals
                go_roundw
                case rel => exact ⟨n + 1, by omega, by go_num, bel_nextD hB'.out hBd20⟩
                case measure => simp [intOf]; omega
            · have hle' : ¬ ((n : Int) < (KU.length : Int)) := by omega
              go_wp2
              go_roundw
              case rel => exact ⟨j + 1, by omega, by go_num, bel_next HB8.out hB'.out⟩
              case measure => simp [intOf]; omega
      · have hle : ¬ ((j : Int) < (AL.length : Int)) := by omega
        go_wp2_with (go_at_call 17; refine (HA.out _ hFr.out.below).mono ?_; rintro e w6 ⟨rfl, hB6⟩)
        go_ret
        exact ⟨rfl, hFr.out.below.trans (hB6.mono hFr.out.below.size)⟩
end Go.Proofs.YtbfpgjnagpcbeaaGreatDoor
