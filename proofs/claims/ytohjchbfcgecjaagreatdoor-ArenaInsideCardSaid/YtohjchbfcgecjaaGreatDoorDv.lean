/-
  WALKS: ArenaInside.
-/
import Derived.Test.YtohjchbfcgecjaaGreatDoorDu
import Derived.BigRegion
namespace Go.Proofs.YtohjchbfcgecjaaGreatDoor
open Go.RowKit Go.MapKept Go.Shelf

/-- The call's arena, and another one in a block of its own. -/
structure O2 (w : World) (a : Ar.Are) (A : Option Addr) (c nb : Nat) (b : Ar.Are) (B : Option Addr) (d : Nat) (Q : Nat → Option Addr × Nat) (W : World) : Prop where
  oa : OA w a A c W
  blk : W.heap[nb]? = some (.cells #[.slice B b.ids.length d, .bool b.root.cell, .int .i64 b.root.n, .bool b.jumps] 26 (0, 0))
  am : AreM W B d Q b
theorem O2.next {w : World} {a : Ar.Are} {A : Option Addr} {c nb : Nat} {b : Ar.Are} {B : Option Addr} {d : Nat} {Q : Nat → Option Addr × Nat} {W W' : World} (h : O2 w a A c nb b B d Q W) (hB : Below W.heap.size W W') : O2 w a A c nb b B d Q W' :=
  ⟨h.oa.next hB, (hB.block _ (lt_of_heap h.blk)).trans h.blk, h.am.below hB⟩
theorem O2.drew {w : World} {a : Ar.Are} {A : Option Addr} {c nb : Nat} {b : Ar.Are} {B : Option Addr} {d : Nat} {Q : Nat → Option Addr × Nat} {W : World} (h : O2 w a A c nb b B d Q W) : O2 w a A c nb b B d Q W.drew :=
  h.next (Below.refl _ _).drew
theorem O2.first {w : World} {a : Ar.Are} {A : Option Addr} {c : Nat} {b : Ar.Are} {B : Option Addr} {d : Nat} {Q : Nat → Option Addr × Nat} {W : World} (h : OA w a A c W) (k : AreM W B d Q b) : O2 w a A c W.heap.size b B d Q (W.alloc (.cells #[.slice B b.ids.length d, .bool b.root.cell, .int .i64 b.root.n, .bool b.jumps] 26 (0, 0))) :=
  ⟨h.next ((Below.refl _ _).alloc (Nat.le_refl _) _), World.alloc_heap_new _ _, k.below ((Below.refl _ _).alloc (Nat.le_refl _) _)⟩
/-- An arena in the call's first block, and a move in a list. -/
def OM (w : World) (a : Ar.Are) (A : Option Addr) (c b off i : Nat) (x : Ar.Mv) (W : World) : Prop := Below w.heap.size w W ∧ W.cell? ⟨w.heap.size, 0, none⟩ = some (.slice A a.ids.length c) ∧ W.cell? ⟨w.heap.size, 1, none⟩ = some (.bool a.root.cell) ∧ W.cell? ⟨w.heap.size, 2, none⟩ = some (.int .i64 a.root.n) ∧ W.cell? ⟨w.heap.size, 3, none⟩ = some (.bool a.jumps) ∧
  W.cell? ⟨b, off + i * 4, none⟩ = some (.int .i64 x.id) ∧ W.cell? ⟨b, off + i * 4 + 1, none⟩ = some (.int .i64 x.arg) ∧ W.cell? ⟨b, off + i * 4 + 2, none⟩ = some (.int .u8 x.kind) ∧ W.cell? ⟨b, off + i * 4 + 3, none⟩ = some (.int .i64 x.n)
theorem OM.next {w : World} {a : Ar.Are} {A : Option Addr} {c b off i : Nat} {x : Ar.Mv} {W W' : World} (h : OM w a A c b off i x W) (hB : Below W.heap.size W W') : OM w a A c b off i x W' := by
  obtain ⟨h0, x0, x1, x2, x3, y0, y1, y2, y3⟩ := h
  exact ⟨h0.trans (hB.mono h0.size), keep_cell hB x0, keep_cell hB x1, keep_cell hB x2, keep_cell hB x3, keep_cell hB y0, keep_cell hB y1, keep_cell hB y2, keep_cell hB y3⟩
theorem OM.drew {w : World} {a : Ar.Are} {A : Option Addr} {c b off i : Nat} {x : Ar.Mv} {W : World} (h : OM w a A c b off i x W) : OM w a A c b off i x W.drew := ⟨h.1.drew, h.2⟩
theorem belN {W0 W W' : World} (h : Below W0.heap.size W0 W) (hB : Below W.heap.size W W') : Below W0.heap.size W0 W' := h.trans (hB.mono h.size)
theorem belD {W0 W W' : World} (h : Below W0.heap.size W0 W) (hB : Below W.drew.heap.size W.drew W') : Below W0.heap.size W0 W' := h.drew.trans (hB.mono h.size)
namespace Ar
def atId (k : Nat) (x : Mv) : Bool := decide (x.id = (k : Int) + 1)
def cnt (k : Nat) (l : List Mv) (j : Nat) : Nat := ((l.take j).filter (atId k)).length
theorem cnt_zero (k : Nat) (l : List Mv) : cnt k l 0 = 0 := rfl
theorem cnt_le (k : Nat) (l : List Mv) (j : Nat) : cnt k l j ≤ l.length := by
  unfold cnt
  exact Nat.le_trans (List.length_filter_le _ _) (by rw [List.length_take]; omega)
theorem cnt_yes {k : Nat} {l : List Mv} {j : Nat} {x : Mv} (hx : l[j]? = some x) (h : x.id = (k : Int) + 1) : cnt k l (j + 1) = cnt k l j + 1 := by
  unfold cnt
  rw [List.take_add_one, hx, Option.toList_some, List.filter_append, List.length_append]
  have : [x].filter (atId k) = [x] := by rw [List.filter_cons, if_pos (show atId k x = true from decide_eq_true h)]; rfl
  rw [this]; rfl
theorem cnt_no {k : Nat} {l : List Mv} {j : Nat} {x : Mv} (hx : l[j]? = some x) (h : x.id ≠ (k : Int) + 1) : cnt k l (j + 1) = cnt k l j := by
  unfold cnt
  rw [List.take_add_one, hx, Option.toList_some, List.filter_append, List.length_append]
  have : [x].filter (atId k) = [] := by rw [List.filter_cons, if_neg (show ¬ atId k x = true by unfold atId; rw [decide_eq_false h]; decide)]; rfl
  rw [this]; rfl
theorem cnt_all (k : Nat) (l : List Mv) : cnt k l l.length = (l.filter (atId k)).length := by unfold cnt; rw [List.take_length]
end Ar

theorem innerN {a : Ar.Are} {A : Option Addr} {c : Nat} {P : Nat → Option Addr × Nat} {W : World} {k : Nat} {t : Ar.Ty} (hc : Ar.checkOf a = 0) (hat : a.ids[k]? = some t) (h : ArM W A P a) : Calls Tryz.prog 36 #[.agg #[.slice A a.ids.length c, .bool a.root.cell, .int .i64 a.root.n, .bool a.jumps], .int .i64 ((k : Int) + 1)] W fun e w' => ∃ A' c' P', e = .returned (.tuple #[.agg #[.slice A' (Ar.innerOf a t).ids.length c', .bool (Ar.innerOf a t).root.cell, .int .i64 (Ar.innerOf a t).root.n, .bool (Ar.innerOf a t).jumps], .int .i64 0]) ∧ AreM w' A' c' P' (Ar.innerOf a t) ∧ Below W.heap.size W w' := by
  have := inner_anyN a A c P ((k : Int) + 1) W h
  rw [Ar.innerErr_zero hc hat, Ar.innerRes_of hc hat] at this
  exact this

set_option maxRecDepth 100000 in
set_option maxHeartbeats 16000000 in
theorem law_inside (a : Ar.Are) (A : Option Addr) (c : Nat) (P : Nat → Option Addr × Nat) (w : World) (hM : AreM w A c P a) (pick : Int) (hp : 0 ≤ pick ∧ pick ≤ 255) (hV : GV w) (hG : GT w) :
    Calls Tryz.prog 14 #[arV A c a, .int .u8 pick] w fun e w' => e = .returned (.bool true) ∧ Below w.heap.size w w' := by
  have hav : arV A c a = .agg #[.slice A a.ids.length c, .bool a.root.cell, .int .i64 a.root.n, .bool a.jumps] := rfl
  rw [hav]
  have HF := Lib.hid (OA.first w a A c)
  obtain ⟨e0, e1, e2, e3, -, -, -, -⟩ := cells4 HF.out.arg
  have HA := Lib.hid (fun W (hB : Below w.heap.size w W) => awake_any W (hV.below hB) (hG.below hB))
  have HS := Lib.hid (small_any a A c P _ (hM.below HF.out.below))
  have HM := Lib.hid (fun W (hB : Below w.heap.size w W) => hM.below hB)
  clear hM hV hG hav
  cases hs : Ar.smallOf a
  · rw [hs] at HS
    clear hs
    go_enter Tryz.func14, Tryz.ntmps14
    go_wp2_with (first
      | (go_at_call 17; refine (HA.out _ hF2.below).mono ?_; rintro e w6 ⟨rfl, hB6⟩)
      | (go_at_call 50; refine HS.out.mono ?_; rintro e w2 ⟨rfl, hB2⟩; have hF2 := HF.out.next hB2))
    go_ret
    exact ⟨rfl, hF2.below.trans (hB6.mono hF2.below.size)⟩
  · rw [hs] at HS
    by_cases hn0 : a.ids.length = 0
    · have hne : ((a.ids.length : Int) == 0) = true := by rw [hn0]; rfl
      clear hs hn0
      go_enter Tryz.func14, Tryz.ntmps14
      go_wp2_with (first
        | (go_at_call 17; refine (HA.out _ hF2.below).mono ?_; rintro e w6 ⟨rfl, hB6⟩)
        | (go_at_call 50; refine HS.out.mono ?_; rintro e w2 ⟨rfl, hB2⟩; have hF2 := HF.out.next hB2; obtain ⟨x0, x1, x2, x3, -, -, -, -⟩ := cells4 hF2.arg))
      go_ret
      exact ⟨rfl, hF2.below.trans (hB6.mono hF2.below.size)⟩
    · have hne : ((a.ids.length : Int) == 0) = false := by rw [beq_eq_false_iff_ne]; omega
      obtain ⟨ht, hck, h300⟩ := Ar.small_parts hs
      have hr := Ar.right_of_check hck
      have hid8 := hr.ids
      obtain ⟨q, rfl⟩ : ∃ q : Nat, pick = (q : Int) := ⟨pick.toNat, by omega⟩
      obtain ⟨k, hk⟩ : ∃ k : Nat, k = q % a.ids.length := ⟨_, rfl⟩
      have hkl : k < a.ids.length := by rw [hk]; exact Nat.mod_lt _ (by omega)
      obtain ⟨t, hat⟩ : ∃ t, a.ids[k]? = some t := ⟨_, List.getElem?_eq_getElem hkl⟩
      have hmod : (q : Int).tmod (a.ids.length : Int) = (k : Int) := by
        rw [Int.tmod_eq_emod_of_nonneg hp.1, hk]
        omega
      have hwq : wrap64 (q : Int) = (q : Int) := by unfold wrap64; omega
      have hwk : wrap64 ((k : Int) + 1) = (k : Int) + 1 := by unfold wrap64; omega
      have hnz : (a.ids.length : Int) ≠ 0 := by omega
      have HCP := Lib.hid (fun W (hB : Below w.heap.size w W) => copyL (HM.out W hB) ht)
      have HIN := Lib.hid (fun (W : World) (B : Option Addr) (d : Nat) (Q : Nat → Option Addr × Nat) (h : ArM W B Q a) => innerN (c := d) hck hat h)
      have HBS := Lib.hid (Ar.inner_small hs hat)
      have HDN := Lib.hid (fun (x : Ar.Mv) hx hid => Ar.down_in (x := x) hr hat hx hid)
      have HCN := Lib.hid (show Ar.cnt k (Ar.allOf a) (Ar.allOf a).length = (Ar.allOf (Ar.innerOf a t)).length by rw [Ar.cnt_all, Ar.inner_all hr hat, List.length_map, ← Ar.all_filter hr hat]; rfl)
      have HMV := Lib.hid (fun W (hB : Below w.heap.size w W) => lawMoves_any a A c P W (HM.out W hB) ht hck h300)
      have HW := Lib.hid (fun (m : Ar.Mv) (hf : Ar.findErr a m = 0) W (hB : Below w.heap.size w W) => lawWhose_any a A c P m W (HM.out W hB) ht hf)
      have HIA := Lib.hid (fun (x : Ar.Mv) (hx : x ∈ Ar.allOf a) => Ar.in_arena hck (Ar.all_cell hr hx))
      clear hk hs ht hck hr hat hid8 HM hp
      generalize Ar.innerOf a t = b at *
      obtain ⟨bt, bck, b300⟩ := Ar.small_parts HBS.out
      have HSB := Lib.hid (fun (W : World) (B : Option Addr) (d : Nat) (Q : Nat → Option Addr × Nat) (h : AreM W B d Q b) => small_any b B d Q W h)
      have HMVB := Lib.hid (fun (W : World) (B : Option Addr) (d : Nat) (Q : Nat → Option Addr × Nat) (h : AreM W B d Q b) => lawMoves_any b B d Q W h bt bck b300)
      have HWB := Lib.hid (fun (m : Ar.Mv) (hf : Ar.findErr b m = 0) (W : World) (B : Option Addr) (d : Nat) (Q : Nat → Option Addr × Nat) (h : AreM W B d Q b) => lawWhose_any b B d Q m W h bt hf)
      rw [HBS.out] at HSB
      clear bt bck HBS
      generalize Ar.allOf a = AL at *
      generalize Ar.allOf b = KB at *
      go_enter Tryz.func14, Tryz.ntmps14
      go_wp2_with (first
        | (go_at_call 51; have _t := hB6; refine (HMVB.out _ _ _ _ hO6.am).mono ?_; rintro e w7 ⟨BK, dk, rfl, hmk, hB7⟩; have hO7 := Lib.hid (hO6.next hB7); have HMK := Lib.hid hmk; have HML := Lib.hid (hml.next hB7))
        | (go_at_call 51; have _t := hB5; refine (HMV.out _ hO5.oa.below).mono ?_; rintro e w6 ⟨BL, dl, rfl, hml, hB6⟩; have hO6 := hO5.next hB6; obtain ⟨z0, z1, z2, z3, -, -, -, -⟩ := cells4 hO6.blk)
        | (go_at_call 50; have _t := hB4; refine (HSB.out _ _ _ _ (O2.first hF4 hMB).am).mono ?_; rintro e w5 ⟨rfl, hB5⟩; have hO5 := (O2.first hF4 hMB).next hB5; obtain ⟨y0, y1, y2, y3, -, -, -, -⟩ := cells4 hO5.oa.arg)
        | (go_at_call 36; refine (HIN.out _ _ _ _ hMb3).mono ?_; rintro e w4 ⟨Ab, cb, Pb, rfl, hMB, hB4⟩; have hF4 := hF3.next hB4)
        | (go_at_call 18; refine (HCP.out _ hF2.below).mono ?_; rintro e w3 ⟨Ab3, cb3, Pb3, rfl, hMb3, hB3⟩; have hF3 := hF2.next hB3)
        | (go_at_call 50; refine HS.out.mono ?_; rintro e w2 ⟨rfl, hB2⟩; have hF2 := HF.out.next hB2; obtain ⟨x0, x1, x2, x3, -, -, -, -⟩ := cells4 hF2.arg))
      clear hmk hml hB7 hB6 hB5 hB4 hB3 hB2 hO6 hO5 hF2 hF3 hF4 hMB hMb3 x0 x1 x2 x3 y0 y1 y2 y3 z0 z1 z2 z3 e0 e1 e2 e3 HS HCP HIN HSB HMV HMVB
      go_loopw [12, 13] (fun v i wr => ∃ (j : Nat), j ≤ AL.length ∧ v = .int .i64 (Ar.cnt k AL j : Int) ∧ i = .int .i64 (j : Int) ∧ Hid (Below w7.heap.size w7 wr)) (fun _ i _ => AL.length - (intOf i).toNat)
      case atStart => exact ⟨0, Nat.zero_le _, rfl, rfl, Below.refl _ _⟩
      case round =>
        obtain ⟨j, hj, rfl, rfl, hB⟩ := hrel
        have hO := Lib.hid (hO7.out.next hB.out)
        by_cases hlt : j < AL.length
        · obtain ⟨x, hx⟩ : ∃ x, AL[j]? = some x := ⟨_, List.getElem?_eq_getElem hlt⟩
          obtain ⟨bl, off, hAe, hbB, hc⟩ := (HML.out.below hB.out) (by intro e; rw [e] at hlt; simp at hlt)
          obtain ⟨c0, c1, c2, c3⟩ := hc j x hx
          have hxm := List.mem_of_getElem? hx
          have hcl := Ar.cnt_le k AL j
          have hle : ((j : Int) < (AL.length : Int)) := by omega
          have hw2 : IntKind.i64.wrap (j : Int) = (j : Int) := IntWalk.i64_in _ (by omega)
          have hb0 : (0 : Int) ≤ (j : Int) := by omega
          have hb2 : (j : Int) ≤ (AL.length : Int) := by omega
          subst hAe
          by_cases hid : x.id = (k : Int) + 1
          · have hcy := Ar.cnt_yes hx hid
            obtain ⟨hdm, hdf, hdo⟩ := HDN.out x hxm hid
            have hf := HIA.out x hxm
            have hne2 : (x.id != (k : Int) + 1) = false := by rw [hid]; simp
            have hwm : wrap64 ((Ar.cnt k AL j : Int) + 1) = (Ar.cnt k AL j : Int) + 1 := by unfold wrap64; omega
            have HWX := Lib.hid (fun W (hB : Below w.heap.size w W) => HW.out x hf W hB)
            have HWD : Hid (∀ (W : World) (B : Option Addr) (d : Nat) (Q : Nat → Option Addr × Nat), AreM W B d Q b → Calls Tryz.prog 52 #[.agg #[.slice B b.ids.length d, .bool b.root.cell, .int .i64 b.root.n, .bool b.jumps], .agg #[.int .i64 x.arg, .int .i64 0, .int .u8 x.kind, .int .i64 x.n]] W fun e w' => e = .returned (.tuple #[.bool (!Ar.otherRef x), .bool true]) ∧ Below W.heap.size W w') := fun W B d Q h => by
              have := HWB.out (Ar.down x) hdf W B d Q h
              rw [hdo] at this
              exact this
            have hR : 0 ≤ Ar.findFrom (Ar.down x) 0 KB := of_decide_eq_true ((Ar.find_any_of (Ar.down x) KB 0).trans (List.any_eq_true.2 ⟨_, hdm, mvEq_self _⟩))
            have HFN : Hid (∀ (W : World), Mvs W W.heap.size BK KB → Calls Tryz.prog 53 #[.slice BK KB.length dk, .agg #[.int .i64 x.arg, .int .i64 0, .int .u8 x.kind, .int .i64 x.n]] W fun e w' => e = .returned (.int .i64 (Ar.findFrom (Ar.down x) 0 KB)) ∧ Below W.heap.size W w') := fun W h => refFind_any KB BK dk (Ar.down x) W (by omega) h
            generalize Ar.findFrom (Ar.down x) 0 KB = R at *
            have hnlt : ¬ (R < 0) := by omega
            generalize Ar.otherRef x = OX at *
            generalize Ar.cnt k AL j = N at *
            have hBM : Below wr.heap.size wr (wr.alloc (.cells #[.int .i64 x.arg, .int .i64 0, .int .u8 x.kind, .int .i64 x.n] 40 (0, 0))) := (Below.refl _ _).alloc (Nat.le_refl _) _
            have hO1 : O2 w a A c w4.heap.size b Ab cb Pb (wr.alloc (.cells #[.int .i64 x.arg, .int .i64 0, .int .u8 x.kind, .int .i64 x.n] 40 (0, 0))).drew := (hO.out.next hBM).drew
            obtain ⟨x0, x1, x2, x3, -, -, -, -⟩ := cells4 hO1.oa.arg
            have hS18 : OM w a A c bl off j x (wr.alloc (.cells #[.int .i64 x.arg, .int .i64 0, .int .u8 x.kind, .int .i64 x.n] 40 (0, 0))).drew := ⟨hO1.oa.below, x0, x1, x2, x3, keep_cell hBM c0, keep_cell hBM c1, keep_cell hBM c2, keep_cell hBM c3⟩
            have HS18 := Lib.hid hS18.drew
            have HO1 := Lib.hid hO1
            have HM1 : Hid ((wr.alloc (.cells #[.int .i64 x.arg, .int .i64 0, .int .u8 x.kind, .int .i64 x.n] 40 (0, 0))).drew.heap[wr.heap.size]? = some (.cells #[.int .i64 x.arg, .int .i64 0, .int .u8 x.kind, .int .i64 x.n] 40 (0, 0))) := World.alloc_heap_new _ _
            have HB1 : Hid (Below w7.heap.size w7 (wr.alloc (.cells #[.int .i64 x.arg, .int .i64 0, .int .u8 x.kind, .int .i64 x.n] 40 (0, 0))).drew) := (belN hB.out hBM).drew
            clear x0 x1 x2 x3 hO1 hS18 hBM
            have hZ : Below wr.heap.size wr (wr.alloc (.cells #[.int .i64 0, .int .i64 0, .int .u8 0, .int .i64 0] 40 (0, 0))) := (Below.refl _ _).alloc (Nat.le_refl _) _
            have hZ' : Below wr.drew.heap.size wr.drew (wr.drew.alloc (.cells #[.int .i64 0, .int .i64 0, .int .u8 0, .int .i64 0] 40 (0, 0))) := (Below.refl _ _).alloc (Nat.le_refl _) _
            have d1 := keep_cell hZ c1
            have d1' := keep_cell (W := wr.drew) hZ' c1
            have d2 := keep_cell hZ c2
            have d2' := keep_cell (W := wr.drew) hZ' c2
            have d3 := keep_cell hZ c3
            have d3' := keep_cell (W := wr.drew) hZ' c3
            clear hx hc hxm hdm hdf hdo hid hZ hZ'
            go_wp2
            go_region
            generalize (wr.alloc (.cells #[.int .i64 x.arg, .int .i64 0, .int .u8 x.kind, .int .i64 x.n] 40 (0, 0))).drew = W1 at *
            go_wp2
            go_region_held3 (fun w' => Below w.heap.size w w' ∧ w'.cell? ⟨w.heap.size, 0, none⟩ = some (.slice A a.ids.length c) ∧ w'.cell? ⟨w.heap.size, 1, none⟩ = some (.bool a.root.cell) ∧ w'.cell? ⟨w.heap.size, 2, none⟩ = some (.int .i64 a.root.n) ∧ w'.cell? ⟨w.heap.size, 3, none⟩ = some (.bool a.jumps) ∧
                w'.cell? ⟨bl, off + j * 4, none⟩ = some (.int .i64 x.id) ∧ w'.cell? ⟨bl, off + j * 4 + 1, none⟩ = some (.int .i64 x.arg) ∧ w'.cell? ⟨bl, off + j * 4 + 2, none⟩ = some (.int .u8 x.kind) ∧ w'.cell? ⟨bl, off + j * 4 + 3, none⟩ = some (.int .i64 x.n))
              (first
                | exact HS18.out
                | assumption
                | exact OM.next (by assumption) hBd18
                | go_keep)
              ((go_at_call 52; refine (HWX.out _ (SI_below (by assumption))).mono ?_; rintro e wd18 ⟨rfl, hBd18⟩))
            have hO18 := HO1.out.drew.next hBd18
            have HB18 := Lib.hid (belD HB1.out hBd18)
            have hM18 := (hBd18.block _ (lt_of_heap (W := W1.drew) HM1.out)).trans HM1.out
            have HO18 := Lib.hid hO18
            have HM18 := Lib.hid hM18
            obtain ⟨y0, y1, y2, y3, -, -, -, -⟩ := cells4 hO18.blk
            obtain ⟨z0, z1, z2, z3, -, -, -, -⟩ := cells4 hM18
            clear hO18 hM18 hBd18
            cases OX
            all_goals
              go_wp2_with (first
                | (go_at_call 53; refine (HFN.out _ (HMK.out.next HB19.out)).mono ?_; rintro e w20 ⟨rfl, hB20⟩; have HB20 := Lib.hid (belN HB19.out hB20))
                | (go_at_call 52; refine (HWD.out _ _ _ _ HO18.out.am).mono ?_; rintro e w19 ⟨rfl, hB19⟩; have HB19 := Lib.hid (belN HB18.out hB19); obtain ⟨v0, v1, v2, v3, -, -, -, -⟩ := cells4 ((hB19.block _ (lt_of_heap HM18.out)).trans HM18.out)))
            all_goals
              go_roundw
              case rel => exact ⟨j + 1, by omega, by rw [hcy]; first | rfl | go_num, by go_num, HB20.out⟩
              case measure => simp [intOf]; omega
          · have hcn := Ar.cnt_no hx hid
            have hne2 : (x.id != (k : Int) + 1) = true := by rw [bne_iff_ne]; exact hid
            clear hx hc hxm hid
            go_wp2
            go_roundw
            case rel => exact ⟨j + 1, by omega, by rw [hcn], by go_num, hB.out⟩
            case measure => simp [intOf]; omega
        · obtain rfl : j = AL.length := by omega
          have hle : ¬ ((AL.length : Int) < (AL.length : Int)) := by omega
          rw [HCN.out]
          go_wp2_with (go_at_call 17; refine (HA.out _ hO.out.oa.below).mono ?_; rintro e w9 ⟨rfl, hB9⟩)
          go_ret
          exact ⟨rfl, hO.out.oa.below.trans (hB9.mono hO.out.oa.below.size)⟩
end Go.Proofs.YtohjchbfcgecjaaGreatDoor
