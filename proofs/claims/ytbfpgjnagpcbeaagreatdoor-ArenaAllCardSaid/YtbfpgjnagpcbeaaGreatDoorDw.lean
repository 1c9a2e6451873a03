/-
  WALKS: ArenaAll.
-/
import Derived.Test.YtbfpgjnagpcbeaaGreatDoorDt
import Derived.Test.YtbfpgjnagpcbeaaGreatDoorPd
import Derived.Deep.OwnRows
import Derived.BigQuiet
import Derived.Deep.QuietTactic
namespace Go.Proofs.YtbfpgjnagpcbeaaGreatDoor
open Go.RowKit Go.MapKept Go.Shelf

theorem infoBool : (Tryz.prog.info? 4).map (fun i => (i.zero, i.size, i.bytes)) = some (some (.bool false), 1, 1) := by kernel_rfl
/-- The marks: a row of the call's own. -/
def RowB (W : World) (T n : Nat) (F : Nat → Bool) : Prop := W.rowIs T 4 n (fun j => .bool (F j))
theorem RowB.below {W W' : World} {T n : Nat} {F : Nat → Bool} (h : RowB W T n F) (hB : Below W.heap.size W W') : RowB W' T n F := World.rowIs.of_block h (hB.block _ (World.rowIs.lt h))
theorem RowB.set {W : World} {T n : Nat} {F : Nat → Bool} (h : RowB W T n F) (i : Nat) : RowB (W.setCell ⟨T, i, none⟩ (.bool true)) T n (Ar.put F i) :=
  (World.rowIs.set h i (.bool true)).congr fun j _ => by unfold Ar.put; split <;> rfl
theorem RowB.cell {W : World} {T n : Nat} {F : Nat → Bool} (h : RowB W T n F) {i : Nat} (hi : i < n) : W.cell? ⟨T, i, none⟩ = some (.bool (F i)) := World.rowIs.cell h hi
theorem RowB.frozen {W : World} {T n : Nat} {F : Nat → Bool} (h : RowB W T n F) (i : Nat) : W.frozen? ⟨T, i, none⟩ = false := World.rowIs.frozen h i
/-- A list of moves whose block lies from a number on. -/
def MvsO (W : World) (lo : Nat) (A : Option Addr) (l : List Ar.Mv) : Prop := l ≠ [] → ∃ b off, A = some ⟨b, off, none⟩ ∧ lo ≤ b ∧ b < W.heap.size ∧ ∀ (i : Nat) (x : Ar.Mv), l[i]? = some x → W.cell? ⟨b, off + i * 4, none⟩ = some (.int .i64 x.id) ∧ W.cell? ⟨b, off + i * 4 + 1, none⟩ = some (.int .i64 x.arg) ∧ W.cell? ⟨b, off + i * 4 + 2, none⟩ = some (.int .u8 x.kind) ∧ W.cell? ⟨b, off + i * 4 + 3, none⟩ = some (.int .i64 x.n)
theorem mvsO_of_own {W : World} {n₀ c k : Nat} {A : Option Addr} {l : List Ar.Mv} (h : W.ownsRow n₀ 40 4 (.slice A k c) l.length (mvsCells l)) : MvsO W n₀ A l := fun hne => by
  have hn : 0 < l.length := List.length_pos_iff.2 hne
  obtain ⟨g, rfl, hb, hlt, hc⟩ := own_cell h hn
  refine ⟨g, 0, rfl, hb, hlt, fun i x hi => ?_⟩
  have hf := flat_get (f := mvCells) (s := 4) (fun _ => rfl) l i x hi
  simp only [Nat.zero_add]
  exact ⟨hc _ _ (hf 0 (by omega)), hc _ _ (hf 1 (by omega)), hc _ _ (hf 2 (by omega)), hc _ _ (hf 3 (by omega))⟩
theorem MvsO.grown {W W' : World} {lo T : Nat} {A : Option Addr} {l : List Ar.Mv} (h : MvsO W lo A l) (hg : W.grownBy W' (some T)) (hT : T < lo) : MvsO W' lo A l := fun hne => by
  obtain ⟨b, off, hA, h1, h2, hc⟩ := h hne
  have hb := hg.block b h2 (fun e => by injection e; omega)
  have hk : ∀ j, W'.cell? ⟨b, j, none⟩ = W.cell? ⟨b, j, none⟩ := fun j => World.cell?_of_block (a := ⟨b, j, none⟩) hb
  exact ⟨b, off, hA, h1, Nat.lt_of_lt_of_le h2 hg.size, fun i x hi => by
    obtain ⟨c0, c1, c2, c3⟩ := hc i x hi
    exact ⟨(hk _).trans c0, (hk _).trans c1, (hk _).trans c2, (hk _).trans c3⟩⟩
theorem answersO {a : Ar.Are} {A : Option Addr} {c : Nat} {P : Nat → Option Addr × Nat} {W : World} (m : Ar.Mv) (h : ArM W A P a) : Calls Tryz.prog 29 #[.agg #[.slice A a.ids.length c, .bool a.root.cell, .int .i64 a.root.n, .bool a.jumps], .agg #[.int .i64 m.id, .int .i64 m.arg, .int .u8 m.kind, .int .i64 m.n]] W fun e w' => ∃ B d, e = .returned (.tuple #[.slice B (Ar.ansRef a m).length d, .int .i64 (Ar.ansErr a m : Int)]) ∧ MvsO w' W.heap.size B (Ar.ansRef a m) ∧ Below W.heap.size W w' :=
  (Answers_any a A c P m W h).mono fun e w' ⟨v, h1, h2, h3⟩ => by
    rw [Ar.ans_eq] at h2
    obtain ⟨B, d, rfl⟩ := own_form h2
    exact ⟨B, d, by rw [h1, Ar.fq_eq], mvsO_of_own h2, h3⟩
theorem grown_set {W0 W : World} {T : Nat} (h : W0.grownBy W (some T)) (i : Nat) (v : Value) : W0.grownBy (W.setCell ⟨T, i, none⟩ v) (some T) :=
  ⟨h.os, h.tape, h.output, by simpa using h.size, fun k hk hne => (Below.heap_setCell W ⟨T, i, none⟩ v k (fun e => hne (by subst e; rfl))).trans (h.block k hk hne)⟩
theorem grown_below {W0 W W' : World} {T : Nat} (h : W0.grownBy W (some T)) (hB : Below W.heap.size W W') : W0.grownBy W' (some T) :=
  ⟨hB.os.trans h.os, hB.tape.trans h.tape, hB.output.trans h.output, Nat.le_trans h.size hB.size, fun k hk hne => (hB.block k (Nat.lt_of_lt_of_le hk h.size)).trans (h.block k hk hne)⟩
theorem grown_drewN {W0 W : World} {r : Option Nat} (h : W0.grownBy W r) (n : Nat) : W0.grownBy (W.drewN n) r := ⟨h.os, h.tape, h.output, h.size, h.block⟩
theorem RowB.drewN {W : World} {T n : Nat} {F : Nat → Bool} (h : RowB W T n F) (k : Nat) : RowB (W.drewN k) T n F := World.rowIs.of_block h rfl
theorem grown_refl (W : World) (r : Option Nat) : W.grownBy W r := ⟨rfl, rfl, rfl, Nat.le_refl _, fun _ _ _ => rfl⟩
theorem below_grown {W0 W W' : World} {T : Nat} (h : Below W0.heap.size W0 W) (hT : W0.heap.size ≤ T) (hg : W.grownBy W' (some T)) : Below W0.heap.size W0 W' :=
  h.grown hg h.size (fun k e => by injection e; omega)
/-- Two cells of a list below a block stand in every later world. -/
theorem held_cell {W0 W W' : World} {b j : Nat} {v : Value} (hb : b < W0.heap.size) (h : Below W0.heap.size W0 W) (c : W.cell? ⟨b, j, none⟩ = some v) (h' : Below W0.heap.size W0 W') : W'.cell? ⟨b, j, none⟩ = some v :=
  (h'.cell (p := ⟨b, j, none⟩) hb).trans ((h.cell (p := ⟨b, j, none⟩) hb).symm.trans c)

/-- A base type's first cell, above what a list of moves wants. -/
def PB (w3 : World) (n : Nat) (z : Bool) (W : World) : Prop := Below w3.heap.size w3 W ∧ W.cell? ⟨n, 0, none⟩ = some (.bool z)
theorem PB.next {w3 W W' : World} {n : Nat} {z : Bool} (h : PB w3 n z W) (hB : Below W.heap.size W W') : PB w3 n z W' := ⟨h.1.trans (hB.mono h.1.size), keep_cell hB h.2⟩
theorem PB.first {w3 W : World} {z : Bool} {v : Value} (h : Below w3.heap.size w3 W) : PB w3 W.heap.size z (W.alloc (.cells #[.bool z, v] 24 (0, 0))) :=
  ⟨h.alloc h.size _, (cells2 (World.alloc_heap_new W (.cells #[.bool z, v] 24 (0, 0)))).1⟩

set_option maxRecDepth 100000 in
set_option maxHeartbeats 16000000 in
theorem law_all (a : Ar.Are) (A : Option Addr) (c : Nat) (P : Nat → Option Addr × Nat) (w : World) (hM : AreM w A c P a) (hV : GV w) (hG : GT w) :
    Calls Tryz.prog 12 #[arV A c a] w fun e w' => e = .returned (.bool true) ∧ Below w.heap.size w w' := by
  have hav : arV A c a = .agg #[.slice A a.ids.length c, .bool a.root.cell, .int .i64 a.root.n, .bool a.jumps] := rfl
  rw [hav]
  obtain ⟨i0, hi, hz0, hz1, hz2⟩ := info_parts infoBool
  have HF := Lib.hid (OA.first w a A c)
  obtain ⟨e0, e1, e2, e3, -, -, -, -⟩ := cells4 HF.out.arg
  have HA := Lib.hid (fun W (hB : Below w.heap.size w W) => awake_any W (hV.below hB) (hG.below hB))
  have HS := Lib.hid (small_any a A c P _ (hM.below HF.out.below))
  have HM := Lib.hid (fun W (hB : Below w.heap.size w W) => hM.below hB)
  clear hM hV hG hav
  cases hs : Ar.smallOf a
  · rw [hs] at HS
    clear hs
    go_enter Tryz.func12, Tryz.ntmps12
    go_wp2_with (first
      | (go_at_call 17; refine (HA.out _ hF2.below).mono ?_; rintro e w6 ⟨rfl, hB6⟩)
      | (go_at_call 50; refine HS.out.mono ?_; rintro e w2 ⟨rfl, hB2⟩; have hF2 := HF.out.next hB2))
    go_ret
    exact ⟨rfl, hF2.below.trans (hB6.mono hF2.below.size)⟩
  · rw [hs] at HS
    obtain ⟨ht, hck, h300⟩ := Ar.small_parts hs
    have hr := Ar.right_of_check hck
    have hid8 := hr.ids
    have HMV := Lib.hid (fun W (hB : Below w.heap.size w W) => lawMoves_any a A c P W (HM.out W hB) ht hck h300)
    have HCP := Lib.hid (fun W (hB : Below w.heap.size w W) => copyL (HM.out W hB) ht)
    have HIN := Lib.hid (fun (x : Ar.Mv) (hx : x ∈ Ar.allOf a) => Ar.in_arena hck (Ar.all_cell hr hx))
    have HLN := Lib.hid (fun (m : Ar.Mv) => (Ar.both_len (m := m) hck).1)
    have HRT := Lib.hid hr
    have HSB := Lib.hid (fun (x y : Ar.Mv) (h : y ∈ Ar.ansRef a x) => Ar.ans_sub hr h)
    have HALL := Lib.hid (fun (F : Nat → Bool) (h : Ar.Marks a (Ar.allOf a).length F) (j : Nat) (hj : j < (Ar.allOf a).length) => Ar.marks_all hck h hj)
    have HPF := Lib.hid (fun (id arg : Int) (he : Ar.placeErr a id arg = 0) => Ar.place_fits hck he)
    have HPL := Lib.hid (fun (id arg : Int) (W : World) (B : Option Addr) (d : Nat) (Q : Nat → Option Addr × Nat) (h : ArM W B Q a) => placeL (c := d) id arg h)
    have HAN := Lib.hid (fun (x : Ar.Mv) (W : World) (B : Option Addr) (d : Nat) (Q : Nat → Option Addr × Nat) (h : ArM W B Q a) => answersO (c := d) x h)
    have HE2 := Lib.hid (fun (x : Ar.Mv) (hf : Ar.findErr a x = 0) => Ar.ans_two hf)
    clear hs ht hck HM hr
    generalize hAL : Ar.allOf a = AL at *
    have HAL := Lib.hid hAL
    have HFD := Lib.hid (fun (m : Ar.Mv) (B : Option Addr) (d : Nat) (W : World) (h : Mvs W W.heap.size B AL) => refFind_any AL B d m W (by omega) h)
    clear hAL
    go_enter Tryz.func12, Tryz.ntmps12
    go_wp2_with (first
      | (at_make; refine wpList_make_row _ rfl _ _ 69 rfl 4 i0 (.bool false) Tryz.underlying69 hi hz0 hz1 rfl .i64 .i64 AL.length rfl rfl (by rw [hz2]; omega) (by omega) ?_)
      | (go_at_call 51; refine (HMV.out _ hF2.below).mono ?_; rintro e w3 ⟨B, d, rfl, hm3, hB3⟩; have hF3 := Lib.hid (hF2.next hB3); have HM3 := Lib.hid hm3)
      | (go_at_call 50; refine HS.out.mono ?_; rintro e w2 ⟨rfl, hB2⟩; have hF2 := HF.out.next hB2; obtain ⟨x0, x1, x2, x3, -, -, -, -⟩ := cells4 hF2.arg))
    have HT0 : Hid (RowB (w3.alloc (.cells (madeCells #[.bool false] AL.length) 4)) w3.heap.size AL.length (fun _ => false)) := World.rowIs_made w3 (.bool false) AL.length 4
    have HB0 := Lib.hid (((Below.refl w3.heap.size w3)).alloc (Nat.le_refl _) (.cells (madeCells #[.bool false] AL.length) 4))
    clear hm3 hB3 hF2 hB2 x0 x1 x2 x3 e0 e1 e2 e3 HS HMV
    generalize (w3.alloc (.cells (madeCells #[.bool false] AL.length) 4)) = w4 at *
    go_loopw [6] (fun i wr => ∃ (j : Nat) (F : Nat → Bool), j ≤ AL.length ∧ i = .int .i64 (j : Int) ∧ Hid (Below w3.heap.size w3 wr) ∧ Hid (RowB wr w3.heap.size AL.length F) ∧ Hid (Ar.Marks a j F)) (fun i _ => AL.length - (intOf i).toNat)
    case atStart => exact ⟨0, fun _ => false, Nat.zero_le _, rfl, HB0.out, HT0.out, Ar.marks_zero _ _⟩
    case round =>
      obtain ⟨j, F, hj, rfl, hB, hT, hMk⟩ := hrel
      have hFr := Lib.hid (hF3.out.next hB.out)
      by_cases hlt : j < AL.length
      · obtain ⟨x, hx⟩ : ∃ x, AL[j]? = some x := ⟨_, List.getElem?_eq_getElem hlt⟩
        obtain ⟨b, off, hAe, hbB, hc⟩ := (HM3.out.below hB.out) (by intro e; rw [e] at hlt; simp at hlt)
        obtain ⟨c0, c1, c2, c3⟩ := hc j x hx
        obtain ⟨x0, x1, x2, x3, -, -, -, -⟩ := cells4 hFr.out.arg
        have hf := HIN.out x (List.mem_of_getElem? hx)
        have hS9 : OL w a A c b off j x wr := ⟨hFr.out.below, x0, x1, x2, x3, c0, c1, c2, c3⟩
        have HS9 := Lib.hid hS9.drew
        have HX3 := Lib.hid (fun (W : World) (hBW : Below w3.heap.size w3 W) => And.intro (held_cell hbB hB.out c0 hBW) (held_cell hbB hB.out c1 hBW))
        have HANX := Lib.hid (fun (W : World) (B : Option Addr) (d : Nat) (Q : Nat → Option Addr × Nat) (h : ArM W B Q a) => HAN.out x W B d Q h)
        have HEE := Lib.hid (HE2.out x hf)
        have hx' : (Ar.allOf a)[j]? = some x := by rw [HAL.out]; exact hx
        have HQ0 := Lib.hid (fun (h : Ar.ansErr a x ≠ 0) => Ar.marks_skip hMk.out hx' h)
        have HQ1 := Lib.hid (Ar.marks_in (x := x) hMk.out)
        have HQ2 := Lib.hid (fun (k t : Nat) (y : Ar.Mv) (F' : Nat → Bool) (h : Ar.MarksIn a j x k F') (hy : (Ar.ansRef a x)[k]? = some y) (ht : AL[t]? = some y) => Ar.marks_step HRT.out h hy (by rw [HAL.out]; exact ht))
        have HQ3 := Lib.hid (fun (F' : Nat → Bool) (h : Ar.MarksIn a j x (Ar.ansRef a x).length F') => Ar.marks_out h hx')
        have HSX := Lib.hid (fun (y : Ar.Mv) (h : y ∈ Ar.ansRef a x) => HSB.out x y h)
        have hl1 := HLN.out x
        have hle : ((j : Int) < (AL.length : Int)) := by omega
        have hw2 : IntKind.i64.wrap (j : Int) = (j : Int) := IntWalk.i64_in _ (by omega)
        have hb0 : (0 : Int) ≤ (j : Int) := by omega
        have hb2 : (j : Int) ≤ (AL.length : Int) := by omega
        clear hx hx' hc x0 x1 x2 x3 c0 c1 c2 c3 hf hS9
        subst hAe
        generalize Ar.ansErr a x = E at *
        generalize Ar.ansRef a x = KL at *
        go_wp2
        go_region_held3 (fun w' => Below w.heap.size w w' ∧ w'.cell? ⟨w.heap.size, 0, none⟩ = some (.slice A a.ids.length c) ∧ w'.cell? ⟨w.heap.size, 1, none⟩ = some (.bool a.root.cell) ∧ w'.cell? ⟨w.heap.size, 2, none⟩ = some (.int .i64 a.root.n) ∧ w'.cell? ⟨w.heap.size, 3, none⟩ = some (.bool a.jumps) ∧
        w'.cell? ⟨b, off + j * 4, none⟩ = some (.int .i64 x.id) ∧ w'.cell? ⟨b, off + j * 4 + 1, none⟩ = some (.int .i64 x.arg) ∧ w'.cell? ⟨b, off + j * 4 + 2, none⟩ = some (.int .u8 x.kind) ∧ w'.cell? ⟨b, off + j * 4 + 3, none⟩ = some (.int .i64 x.n))
          (first
            | exact HS9.out
            | assumption
            | exact OL.next (by assumption) hBc12
            | exact OL.next (by assumption) hBd12
            | go_keep)
          ((first
            | (go_at_call 29; refine (HANX.out _ _ _ _ hMb12).mono ?_; rintro e wd12 ⟨B12, d12, rfl, hm12, hBd12⟩)
            | (go_at_call 18; refine (HCP.out _ (SI_below (by assumption))).mono ?_; rintro e wc12 ⟨Ab12, cb12, Pb12, rfl, hMb12, hBc12⟩)))
        have HB12 := Lib.hid (bel_next (bel_nextD hB.out hBc12) hBd12)
        have HT12 := Lib.hid ((RowB.below (W := wr.drew) hT.out hBc12).below hBd12)
        have HK12 := Lib.hid hm12
        have hlo : w3.heap.size < wc12.heap.size := Nat.lt_of_lt_of_le (World.rowIs.lt hT.out) hBc12.size
        clear hMb12 hBc12 hBd12 hm12
        rcases HEE.out with hE | hE
        · subst hE
          have hg6 : ¬ (300 < (KL.length : Int)) := by omega
          have hcT := HT12.out.cell hlt
          have hfT := HT12.out.frozen j
          go_wp2
          go_loopw [9] (fun i wr' => ∃ (n : Nat) (F' : Nat → Bool), n ≤ KL.length ∧ i = .int .i64 (n : Int) ∧ Hid (wd12.grownBy wr' (some w3.heap.size)) ∧ Hid (RowB wr' w3.heap.size AL.length F') ∧ Hid (Ar.MarksIn a j x n F')) (fun i _ => KL.length - (intOf i).toNat)
          case atStart => exact ⟨0, Ar.put F j, Nat.zero_le _, rfl, grown_set (grown_refl _ _) j _, HT12.out.set j, HQ1.out⟩
          case round =>
            obtain ⟨n, F', hn, rfl, hg, hT', hMk'⟩ := hrel
            have HBr := Lib.hid (below_grown HB12.out (Nat.le_refl _) hg.out)
            by_cases hln : n < KL.length
            · obtain ⟨y, hy⟩ : ∃ y, KL[n]? = some y := ⟨_, List.getElem?_eq_getElem hln⟩
              obtain ⟨b', off', hAe', hlo', hbB', hc'⟩ := (HK12.out.grown hg.out hlo) (by intro e; rw [e] at hln; simp at hln)
              obtain ⟨c0, c1, c2, c3⟩ := hc' n y hy
              obtain ⟨hym, hy1, hy2, hy3⟩ := HSX.out y (List.mem_of_getElem? hy)
              obtain ⟨t, ht1, ht2, ht3⟩ := Ar.find_nat hym
              have HFY : Hid (∀ (W : World), Mvs W W.heap.size (some ⟨b, off, none⟩) AL → Calls Tryz.prog 53 #[.slice (some ⟨b, off, none⟩) AL.length d, .agg #[.int .i64 x.id, .int .i64 x.arg, .int .u8 3, .int .i64 y.n]] W fun e w' => e = .returned (.int .i64 (t : Int)) ∧ Below W.heap.size W w') := fun W h => by
                have := HFD.out y _ d W h
                rw [ht1, hy1, hy2, hy3] at this
                exact this
              rw [hy1] at c0; rw [hy2] at c1; rw [hy3] at c2
              have HQN := Lib.hid (HQ2.out n t y F' hMk'.out hy ht3)
              have hle' : ((n : Int) < (KL.length : Int)) := by omega
              have hw2' : IntKind.i64.wrap (n : Int) = (n : Int) := IntWalk.i64_in _ (by omega)
              have hb0' : (0 : Int) ≤ (n : Int) := by omega
              have hb2' : (n : Int) ≤ (KL.length : Int) := by omega
              have htn : ¬ ((t : Int) < 0) := by omega
              have hta : (t : Int) < (AL.length : Int) := by omega
              clear hc' hym hy1 hy2 hy3 ht1 ht3 hy
              subst hAe'
              go_wp2_with (go_at_call 53; refine (HFY.out _ ((HM3.out.below HBr.out).mono HBr.out.size)).mono ?_; rintro e w18 ⟨rfl, hB18⟩; obtain ⟨v0, v1⟩ := HX3.out w18 (bel_next HBr.out hB18); have u0 := keep_cell hB18 c0; have u1 := keep_cell hB18 c1; have u2 := keep_cell hB18 c2; have u3 := keep_cell hB18 c3; have HT18 := Lib.hid (hT'.out.below hB18); have r0 := HT18.out.cell ht2; have r1 := HT18.out.frozen t; have HG18 := Lib.hid (grown_below hg.out hB18))
              go_quiet (fail)
              go_wp2
              go_roundw
              case rel => exact ⟨n + 1, Ar.put F' t, by omega, by go_num, grown_set (grown_drewN HG18.out _) t _, (RowB.drewN HT18.out _).set t, HQN.out⟩
              case measure => simp [intOf]; omega
            · have hle' : ¬ ((n : Int) < (KL.length : Int)) := by omega
              obtain rfl : n = KL.length := by omega
              go_wp2
              go_roundw
              case rel => exact ⟨j + 1, F', by omega, by go_num, HBr.out, hT'.out, HQ3.out F' hMk'.out⟩
              case measure => simp [intOf]; omega
        · subst hE
          go_wp2
          go_roundw
          case rel => exact ⟨j + 1, F, by omega, by go_num, HB12.out, HT12.out, HQ0.out (by decide)⟩
          case measure => simp [intOf]; omega
      · have hle : ¬ ((j : Int) < (AL.length : Int)) := by omega
        obtain rfl : j = AL.length := by omega
        have HAF := Lib.hid (fun (t : Nat) (ht : t < AL.length) => HALL.out F hMk.out t ht)
        go_wp2
        go_loopw [11] (fun i wr' => ∃ (n : Nat), n ≤ AL.length ∧ i = .int .i64 (n : Int) ∧ Hid (Below w3.heap.size w3 wr') ∧ Hid (RowB wr' w3.heap.size AL.length F)) (fun i _ => AL.length - (intOf i).toNat)
        case atStart => exact ⟨0, Nat.zero_le _, rfl, hB.out, hT.out⟩
        case round =>
          obtain ⟨n, hn, rfl, hB', hT'⟩ := hrel
          by_cases hln : n < AL.length
          · have hcell := hT'.out.cell hln
            rw [HAF.out n hln] at hcell
            have hle' : ((n : Int) < (AL.length : Int)) := by omega
            have hw2' : IntKind.i64.wrap (n : Int) = (n : Int) := IntWalk.i64_in _ (by omega)
            have hb0' : (0 : Int) ≤ (n : Int) := by omega
            have hb2' : (n : Int) ≤ (AL.length : Int) := by omega
            go_wp2
            go_roundw
            case rel => exact ⟨n + 1, by omega, by go_num, hB'.out, hT'.out⟩
            case measure => simp [intOf]; omega
          · have hle' : ¬ ((n : Int) < (AL.length : Int)) := by omega
            have HB4 := Lib.hid hB'.out
            clear hB' hT' hB hT hMk
            go_wp2
            go_loopw [12] (fun i wr4 => ∃ (id : Nat), id ≤ a.ids.length + 1 ∧ i = .int .i64 (id : Int) ∧ Hid (Below w3.heap.size w3 wr4)) (fun i _ => a.ids.length + 1 - (intOf i).toNat)
            case atStart => exact ⟨0, Nat.zero_le _, rfl, HB4.out⟩
            case round =>
              obtain ⟨id, hid, rfl, hB5⟩ := hrel
              have hF5 := Lib.hid (hF3.out.next hB5.out)
              obtain ⟨x0, x1, x2, x3, -, -, -, -⟩ := cells4 hF5.out.arg
              by_cases hli : id ≤ a.ids.length
              · have hle5 : ((id : Int) ≤ (a.ids.length : Int)) := by omega
                have hwi : IntKind.i64.wrap (id : Int) = (id : Int) := IntWalk.i64_in _ (by omega)
                have hbi : (0 : Int) ≤ (id : Int) := by omega
                have hbj : (id : Int) ≤ 8 := by omega
                have HB5 := Lib.hid hB5.out
                go_wp2
                clear x0 x1 x2 x3
                go_loopw [13] (fun i wr6 => ∃ (arg : Nat), arg ≤ 6 ∧ i = .int .i64 (arg : Int) ∧ Hid (Below w3.heap.size w3 wr6)) (fun i _ => 6 - (intOf i).toNat)
                case atStart => exact ⟨0, Nat.zero_le _, rfl, HB5.out⟩
                case round =>
                  obtain ⟨arg, harg, rfl, hB6⟩ := hrel
                  have hF6 := Lib.hid (hF3.out.next hB6.out)
                  obtain ⟨x0, x1, x2, x3, -, -, -, -⟩ := cells4 hF6.out.arg
                  by_cases hla : arg ≤ 5
                  · have hle6 : ((arg : Int) ≤ 5) := by omega
                    have hwa : IntKind.i64.wrap (arg : Int) = (arg : Int) := IntWalk.i64_in _ (by omega)
                    have hba : (0 : Int) ≤ (arg : Int) := by omega
                    have HPX := Lib.hid (fun (W : World) (B : Option Addr) (d : Nat) (Q : Nat → Option Addr × Nat) (h : ArM W B Q a) => HPL.out (id : Int) (arg : Int) W B d Q h)
                    have HPY := Lib.hid (fun h => HPF.out (id : Int) (arg : Int) h)
                    have HF1 := Lib.hid (fun (W : World) (h : Mvs W W.heap.size B AL) => HFD.out ⟨(id : Int), (arg : Int), 1, 0⟩ B d W h)
                    have HF2 := Lib.hid (fun (W : World) (h : Mvs W W.heap.size B AL) => HFD.out ⟨(id : Int), (arg : Int), 3, 0⟩ B d W h)
                    have HF3 := Lib.hid (fun (W : World) (h : Mvs W W.heap.size B AL) => HFD.out ⟨(id : Int), (arg : Int), 2, 0⟩ B d W h)
                    generalize Ar.placeRes a (id : Int) (arg : Int) = Z at *
                    generalize Ar.placeErr a (id : Int) (arg : Int) = E at *
                    generalize Ar.findFrom ⟨(id : Int), (arg : Int), 1, 0⟩ 0 AL = R1 at *
                    generalize Ar.findFrom ⟨(id : Int), (arg : Int), 3, 0⟩ 0 AL = R2 at *
                    generalize Ar.findFrom ⟨(id : Int), (arg : Int), 2, 0⟩ 0 AL = R3 at *
                    simp only at HF1 HF2 HF3
                    by_cases hE : E = 0
                    · subst hE
                      obtain ⟨hR1, hR2, hR3⟩ := HPY.out rfl
                      go_wp2_with (first
                        | (go_at_call 35; refine (HPX.out _ _ _ _ hMb).mono ?_; rintro e w8 ⟨rfl, hB8⟩)
                        | (go_at_call 18; refine (HCP.out _ hF6.out.below).mono ?_; rintro e w7 ⟨Ab, cb, Pb, rfl, hMb, hB7⟩))
                      have hP9 : PB w3 w8.heap.size Z.cell (w8.alloc (.cells #[.bool Z.cell, .int .i64 Z.n] 24 (0, 0))) := PB.first (bel_next (bel_next hB6.out hB7) hB8)
                      have HP9 := Lib.hid (show PB w3 w8.heap.size Z.cell (w8.alloc (.cells #[.bool Z.cell, .int .i64 Z.n] 24 (0, 0))).drew from ⟨hP9.1.drew, hP9.2⟩)
                      clear hP9 hB7 hB8 hMb x0 x1 x2 x3 hB6
                      generalize (w8.alloc (.cells #[.bool Z.cell, .int .i64 Z.n] 24 (0, 0))) = w9 at *
                      generalize w8.heap.size = n9 at *
                      have g1 : decide (R1 < 0) = false := decide_eq_false (by omega)
                      have g2 : decide (R2 < 0) = false := decide_eq_false (by omega)
                      generalize Z.cell = zc at *
                      cases zc
                      · have hR4 := hR3
                        simp only [decide_eq_false_iff_not] at hR4
                        clear hR3 hR1 hR2 HPY HPX
                        go_region_held3 (fun W' => Below w3.heap.size w3 W' ∧ W'.cell? ⟨n9, 0, none⟩ = some (.bool false))
                          (first
                            | exact HP9.out
                            | assumption
                            | exact PB.next (by assumption) hBa
                            | exact PB.next (by assumption) hBb
                            | exact PB.next (by assumption) hBc
                            | go_keep)
                          ((first
                            | (go_at_call 53; have _t := hBb; refine (HF3.out _ ((HM3.out.below (SI_below (by assumption))).mono (SI_below (by assumption)).size)).mono ?_; rintro e wc ⟨rfl, hBc⟩)
                            | (go_at_call 53; have _t := hBa; refine (HF2.out _ ((HM3.out.below (SI_below (by assumption))).mono (SI_below (by assumption)).size)).mono ?_; rintro e wb ⟨rfl, hBb⟩)
                            | (go_at_call 53; refine (HF1.out _ ((HM3.out.below (SI_below (by assumption))).mono (SI_below (by assumption)).size)).mono ?_; rintro e wa ⟨rfl, hBa⟩)))
                        all_goals
                          have hPE := SI_below (by assumption)
                          have HPE := Lib.hid hPE
                          clear hPE
                          go_wp2
                        all_goals
                          go_roundw
                          case rel => exact ⟨arg + 1, by omega, by go_num, HPE.out⟩
                          case measure => simp [intOf]; omega
                      · have hR4 := hR3
                        simp only [decide_eq_true_eq] at hR4
                        clear hR3 hR1 hR2 HPY HPX
                        go_region_held3 (fun W' => Below w3.heap.size w3 W' ∧ W'.cell? ⟨n9, 0, none⟩ = some (.bool true))
                          (first
                            | exact HP9.out
                            | assumption
                            | exact PB.next (by assumption) hBa
                            | exact PB.next (by assumption) hBb
                            | exact PB.next (by assumption) hBc
                            | go_keep)
                          ((first
                            | (go_at_call 53; have _t := hBb; refine (HF3.out _ ((HM3.out.below (SI_below (by assumption))).mono (SI_below (by assumption)).size)).mono ?_; rintro e wc ⟨rfl, hBc⟩)
                            | (go_at_call 53; have _t := hBa; refine (HF2.out _ ((HM3.out.below (SI_below (by assumption))).mono (SI_below (by assumption)).size)).mono ?_; rintro e wb ⟨rfl, hBb⟩)
                            | (go_at_call 53; refine (HF1.out _ ((HM3.out.below (SI_below (by assumption))).mono (SI_below (by assumption)).size)).mono ?_; rintro e wa ⟨rfl, hBa⟩)))
                        all_goals
                          have hPE := SI_below (by assumption)
                          have HPE := Lib.hid hPE
                          clear hPE
                          go_wp2
                        all_goals
                          go_roundw
                          case rel => exact ⟨arg + 1, by omega, by go_num, HPE.out⟩
                          case measure => simp [intOf]; omega
                    · have hEn : ((E : Int) == 0) = false := by rw [beq_eq_false_iff_ne]; omega
                      go_wp2_with (first
                        | (go_at_call 35; refine (HPX.out _ _ _ _ hMb).mono ?_; rintro e w8 ⟨rfl, hB8⟩)
                        | (go_at_call 18; refine (HCP.out _ hF6.out.below).mono ?_; rintro e w7 ⟨Ab, cb, Pb, rfl, hMb, hB7⟩))
                      have hB9 : Below w3.heap.size w3 (w8.alloc (.cells #[.bool Z.cell, .int .i64 Z.n] 24 (0, 0))) := (PB.first (z := Z.cell) (v := .int .i64 Z.n) (bel_next (bel_next hB6.out hB7) hB8)).1
                      have HB9 := Lib.hid hB9
                      clear hB9 hB7 hB8 hMb x0 x1 x2 x3 hB6
                      generalize (w8.alloc (.cells #[.bool Z.cell, .int .i64 Z.n] 24 (0, 0))) = w9 at *
                      go_quiet (fail)
                      go_wp2
                      go_roundw
                      case rel => exact ⟨arg + 1, by omega, by go_num, ⟨HB9.out.os, HB9.out.tape, HB9.out.output, HB9.out.size, HB9.out.block⟩⟩
                      case measure => simp [intOf]; omega
                  · have hle6 : ¬ ((arg : Int) ≤ 5) := by omega
                    have hBx := Lib.hid hB6.out
                    go_wp2
                    go_roundw
                    case rel => exact ⟨id + 1, by omega, by go_num, hBx.out⟩
                    case measure => simp [intOf]; omega
              · have hle5 : ¬ ((id : Int) ≤ (a.ids.length : Int)) := by omega
                go_wp2_with (go_at_call 17; refine (HA.out _ hF5.out.below).mono ?_; rintro e w6 ⟨rfl, hB6⟩)
                go_ret
                exact ⟨rfl, hF5.out.below.trans (hB6.mono hF5.out.below.size)⟩
end Go.Proofs.YtbfpgjnagpcbeaaGreatDoor
