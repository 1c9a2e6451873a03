/-
  WALKS: a base type, a type and an arena read loosely.
-/
import Derived.Test.YtepdlghobopdbaaGreatDoorHa
import Derived.Test.YtepdlghobopdbaaGreatDoorBv
import Derived.Test.YtepdlghobopdbaaGreatDoorDc
import Derived.Test.YtepdlghobopdbaaGreatDoorBx
namespace Go.Proofs.YtepdlghobopdbaaGreatDoor
open Go.RowKit Go.MapKept Go.Shelf

/-- internal/bytealg.MaxLen holds a number. -/
def GM (w : World) : Prop := ∃ m, w.cell? ⟨0, 0, none⟩ = some (.int .i64 m)
theorem GM.below {w w' : World} (h : GM w) (hb : Below w.heap.size w w') : GM w' := by
  obtain ⟨m, hm⟩ := h
  exact ⟨m, keep_cell hb hm⟩
theorem below_drawn (w : World) (n : Nat) : Below w.heap.size w (w.drewN n) := ⟨rfl, rfl, rfl, Nat.le_refl _, fun _ _ => rfl⟩
theorem cutS_any (s sep : ByteArray) (hs : s.size ≤ 1000000) (w : World) (hM : GM w) :
    Calls Tryz.prog 85 #[.string s, .string sep] w fun e w' => e = .returned (.tuple #[.string (Ar.cutBs s sep).1, .string (Ar.cutBs s sep).2.1, .bool (Ar.cutBs s sep).2.2]) ∧ Below w.heap.size w w' := by
  obtain ⟨m, hm⟩ := hM
  exact (Tryz.strings_Cut s sep m w (by omega) hm).mono fun e w' ⟨he, n, hw⟩ => ⟨he, by subst hw; exact below_drawn _ _⟩
theorem split_any (s sep : ByteArray) (hs : s.size ≤ 1000000) (h1 : 1 ≤ sep.size) (w : World) (hM : GM w) :
    Calls Tryz.prog 66 #[.string s, .string sep] w fun e w' => e = .returned (.slice (some ⟨w.heap.size, 0, none⟩) (Ar.splitBs s sep).length (Ar.splitBs s sep).length) ∧ w' = w.alloc (.cells ((Ar.splitBs s sep).map Value.string).toArray 9) := by
  obtain ⟨m, hm⟩ := hM
  have hl : (Ar.splitBs s sep).length = Lib.countB s sep + 1 := Lib.splitB_all sep h1 0 _ s rfl
  rw [hl]
  exact (Tryz.strings_Split s sep m w (by omega) hm h1).mono fun e w' ⟨he, hw⟩ => ⟨he, hw⟩
/-- A row of texts in memory. -/
structure Strs (W : World) (b off : Nat) (l : List ByteArray) : Prop where
  lt : b < W.heap.size
  cell : ∀ i x, l[i]? = some x → W.cell? ⟨b, off + i, none⟩ = some (.string x)
theorem Strs.below {W W' : World} {b off : Nat} {l : List ByteArray} (h : Strs W b off l) (hB : Below W.heap.size W W') : Strs W' b off l :=
  ⟨Nat.lt_of_lt_of_le h.lt hB.size, fun i x hx => keep_cell hB (h.cell i x hx)⟩
theorem strs_new (W : World) (l : List ByteArray) : Strs (W.alloc (.cells (l.map Value.string).toArray 9)) W.heap.size 0 l := by
  have hb := World.alloc_heap_new W (.cells (l.map Value.string).toArray 9 (0, 0))
  refine ⟨lt_of_heap hb, fun i x hx => ?_⟩
  rw [Nat.zero_add]
  unfold World.cell?
  rw [hb]
  simp [hx]
theorem Strs.tail {W : World} {b off : Nat} {x : ByteArray} {l : List ByteArray} (h : Strs W b off (x :: l)) : Strs W b (off + 1) l :=
  ⟨h.lt, fun i y hy => by have := h.cell (i + 1) y (by simpa using hy); rwa [show off + (i + 1) = off + 1 + i by omega] at this⟩

set_option maxRecDepth 100000 in
set_option maxHeartbeats 4000000 in
theorem readBase_any (s : ByteArray) (hs : s.size ≤ 1000000) (w : World) (hV : GV w) (hM : GM w) :
    Calls Tryz.prog 69 #[.string s] w fun e w' => e = .returned (.agg #[.bool (Ar.readBs s).cell, .int .i64 (Ar.readBs s).n]) ∧ Below w.heap.size w w' := by
  have hB0 : Below w.heap.size w (w.alloc (.cells #[.bool false, .int .i64 0] 25 (0, 0))) := (Below.refl _ _).alloc (Nat.le_refl _) _
  have j0 := Lib.hid (World.alloc_heap_new w (.cells #[.bool false, .int .i64 0] 25 (0, 0)))
  have HC := Lib.hid (fun W (hB : Below w.heap.size w W) => cutS_any s ⟨#[32]⟩ hs W (hM.below hB))
  have HN := Lib.hid (fun W (hB : Below w.heap.size w W) => readNumber_any (Ar.cutBs s ⟨#[32]⟩).2.1 (by have := (Ar.cutBs_size s ⟨#[32]⟩).2; omega) W (hV.below hB))
  have hk : Ar.readBs s = ⟨(Ar.cutBs s ⟨#[32]⟩).1.data.toList == [99, 101, 108, 108], Ar.numOf (Ar.cutBs s ⟨#[32]⟩).2.1⟩ := rfl
  rw [hk]; clear hk hV hM
  have HT := Lib.hid (ByteArray.toList_eq (Ar.cutBs s ⟨#[32]⟩).1)
  generalize (Ar.cutBs s ⟨#[32]⟩).2.2 = k3 at *
  generalize (Ar.cutBs s ⟨#[32]⟩).1 = k1 at *
  generalize (Ar.cutBs s ⟨#[32]⟩).2.1 = k2 at *
  generalize Ar.numOf k2 = n at *
  go_enter Tryz.func69, Tryz.ntmps69
  go_wp2_with (first
    | (go_at_call 86; refine (HN.out _ hBw1).mono ?_; rintro e w2 ⟨rfl, hB2⟩; have hBw2 := hBw1.trans (hB2.mono hBw1.size); have j2 := (hB2.block _ (lt_of_heap j1)).trans j1; obtain ⟨r0, r1, f0, f1⟩ := cells2 j2)
    | (go_at_call 85; refine (HC.out _ hB0).mono ?_; rintro e w1 ⟨rfl, hB1⟩; have hBw1 := hB0.trans (hB1.mono hB0.size); have j1 := (hB1.block _ (lt_of_heap j0.out)).trans j0.out; obtain ⟨q0, q1, -, -⟩ := cells2 j1))
  refine bodyPost_ret (v := .agg #[.bool (k1.data.toList == [99, 101, 108, 108]), .int .i64 n]) (by simp [results, Tryz.results69, go_sem, World.cell?_setCell_same', r0, r1, HT.out]) rfl ⟨rfl, ?_⟩
  iterate 2 (refine Below.setCell ?_ (by simp) _)
  exact hBw2

theorem bsCell_one (x : Ar.Bs) : ∀ u ∈ bsCells x, u.oneCell' = true := fun u hu => by
  simp only [bsCells, List.mem_cons, List.not_mem_nil, or_false] at hu
  rcases hu with rfl | rfl <;> rfl

set_option maxRecDepth 100000 in
set_option maxHeartbeats 4000000 in
theorem eachRB_any (l : List ByteArray) (b off c : Nat) (w : World) (hT : Strs w b off l) (hS : ∀ x ∈ l, x.size ≤ 1000000) (hV : GV w) (hM : GM w) (hL : l.length ≤ 1000001) :
    Calls Tryz.prog 96 #[.slice (some ⟨b, off, none⟩) l.length c, .func (.func 69) #[] #[]] w fun e w' => ∃ (A' : Option Addr) (c' : Nat), e = .returned (.slice A' l.length c') ∧ w'.ownsRow w.heap.size 25 2 (.slice A' l.length c') l.length ((l.map Ar.readBs).flatMap bsCells) ∧ Below w.heap.size w w' := by
  obtain ⟨i0, hi, hz0, hz1, hz2⟩ := info_parts infoBase
  have HT := Lib.hid hT
  have HP := Lib.hid (fun (x : ByteArray) (k : Nat) => fun (hx : l[k]? = some x) (W : World) (hB : Below w.heap.size w W) => readBase_any x (hS x (List.mem_of_getElem? hx)) W (hV.below hB) (hM.below hB))
  clear hT hS hV hM
  go_enter Tryz.func96, Tryz.ntmps96
  go_wp2
  go_loopw [5, 10] (fun v i wr => ∃ k : Nat, k ≤ l.length ∧ i = .int .i64 k ∧ Hid (wr.ownsRow w.heap.size 25 2 v k (((l.take k).map Ar.readBs).flatMap bsCells)) ∧ Below w.heap.size w wr) (fun _ i _ => l.length - (intOf i).toNat)
  case atStart => exact ⟨0, Nat.zero_le _, rfl, World.ownsRow_nil _ _ _ _, Below.refl _ _⟩
  case round =>
    obtain ⟨k, hk, rfl, hrow, hB⟩ := hrel
    by_cases hlt : k < l.length
    · obtain ⟨x, hx⟩ : ∃ x, l[k]? = some x := ⟨_, List.getElem?_eq_getElem hlt⟩
      have c0 := (HT.out.below hB).cell k x hx
      have HX := Lib.hid hx
      have hq0 := block_of_cell c0
      have HC := Lib.hid (HP.out x k hx _ hB)
      obtain ⟨ao, cap, hv⟩ := own_form hrow.out
      subst hv
      have HR1 := Lib.hid hrow.out
      have hsz := hB.size
      generalize hy : Ar.readBs x = y at *
      have HY := Lib.hid hy
      clear hrow hx hy
      go_wp2_with (first
        | (at_builtin; refine wpList_append_own_at _ rfl _ _ 51 rfl w.heap.size 25 i0 _ 2 16 Tryz.underlying51 hi hz0 hz1 hz2 rfl (by decide) _ _ _ rfl (HR2.out.alloc _) ⟨w2.heap.size, 0, none⟩ 1 1 (bsCells y) rfl rfl (fun j u hu => World.news_of_block (cs := (bsCells y).toArray) (t := 25) (fr := (0, 0)) (World.alloc_heap_new w2 _) j u hu) (bsCell_one _) (by unfold maxLen; omega) (by omega) (by simp; omega) ?_; intro v' w3 hown' hgrow _ hat; have hBg := (hBw2.alloc hBw2.size (.cells (bsCells y).toArray 25)).grown hgrow (by simp; omega) (fun j e => own_low HR2.out e))
        | (go_at_call 69; refine HC.out.mono ?_; rintro e w2 ⟨rfl, hB2⟩; have hBw2 := hB.trans (hB2.mono hB.size); have HR2 := Lib.hid (own_ext HR1.out (Ext.of_below hB2 (Nat.le_refl _))); obtain ⟨e0, e1⟩ := And.intro hBw2.size hB2.size))
      go_roundw
      case rel => exact ⟨k + 1, by omega, by go_num, by rw [Hid, List.take_succ_eq_append_getElem hlt, List.map_append, List.flatMap_append, List.map_singleton, List.flatMap_singleton, show l[k] = x by have := HX.out; rw [List.getElem?_eq_getElem hlt] at this; exact Option.some.inj this, HY.out]; exact hown', hBg⟩
      case measure => simp [intOf]; omega
    · obtain rfl : k = l.length := by omega
      have hrow2 := hrow.out
      rw [List.take_length] at hrow2
      have HR := Lib.hid hrow2; clear hrow2 hrow
      obtain ⟨ao, cap, hv⟩ := own_form HR.out
      subst hv
      go_wp2
      go_ret
      exact ⟨_, _, rfl, HR.out, hB⟩

set_option maxRecDepth 100000 in
set_option maxHeartbeats 8000000 in
theorem readType_any (s : ByteArray) (hs : s.size ≤ 1000000) (w : World) (hV : GV w) (hM : GM w) :
    Calls Tryz.prog 68 #[.string s] w fun e w' => ∃ (A' : Option Addr) (c' : Nat), e = .returned (tyV A' c' (Ar.readTy s)) ∧ BasO w' w.heap.size A' (Ar.readTy s).params ∧ (A' = none → c' = 0 ∧ (Ar.readTy s).params = []) ∧ Below w.heap.size w w' := by
  have hB0 : Below w.heap.size w (w.alloc (.cells #[.slice none 0 0, .bool false, .int .i64 0] 53 (0, 0))) := (Below.refl _ _).alloc (Nat.le_refl _) _
  have j0 := Lib.hid (World.alloc_heap_new w (.cells #[.slice none 0 0, .bool false, .int .i64 0] 53 (0, 0)))
  have hso := Ar.openB_size s
  have hsc := Ar.cutBs_size (Ar.openB s) ⟨#[41, 32, 45, 62, 32]⟩
  have HO := Lib.hid (fun W => show Calls Tryz.prog 95 #[.string s, .string ⟨#[40]⟩] W fun e w' => e = .returned (.string (Ar.openB s)) ∧ w' = W from Tryz.strings_TrimPrefix s ⟨#[40]⟩ W)
  have HC := Lib.hid (fun W (hB : Below w.heap.size w W) => cutS_any (Ar.openB s) ⟨#[41, 32, 45, 62, 32]⟩ (by omega) W (hM.below hB))
  have hk : Ar.readTy s = if (Ar.cutBs (Ar.openB s) ⟨#[41, 32, 45, 62, 32]⟩).2.2 = true then ⟨(Ar.splitBs (Ar.cutBs (Ar.openB s) ⟨#[41, 32, 45, 62, 32]⟩).1 ⟨#[44, 32]⟩).map Ar.readBs, Ar.readBs (Ar.cutBs (Ar.openB s) ⟨#[41, 32, 45, 62, 32]⟩).2.1⟩ else ⟨[], Ar.readBs s⟩ := rfl
  rw [hk]; clear hk
  generalize Ar.openB s = so at *
  generalize Ar.cutBs so ⟨#[41, 32, 45, 62, 32]⟩ = kk at *
  obtain ⟨k1, k2, k3⟩ := kk
  cases k3 with
  | false =>
    rw [if_neg (by simp)]
    have HX := Lib.hid (fun W (hB : Below w.heap.size w W) => readBase_any s hs W (hV.below hB) (hM.below hB))
    generalize Ar.readBs s = y at *
    clear hV hM hsc hso
    unfold tyV
    go_enter Tryz.func68, Tryz.ntmps68
    go_wp2_with (first
      | (go_at_call 69; refine (HX.out _ hBw1).mono ?_; rintro e w2 ⟨rfl, hB2⟩; have hBw2 := hBw1.trans (hB2.mono hBw1.size); have j2 := (hB2.block _ (lt_of_heap j1)).trans j1; obtain ⟨r0, r1, r2⟩ := cells3 j2; have f0 := frz j2 0; have f1 := frz j2 1; have f2 := frz j2 2)
      | (go_at_call 85; refine (HC.out _ hB0).mono ?_; rintro e w1 ⟨rfl, hB1⟩; have hBw1 := hB0.trans (hB1.mono hB0.size); have j1 := (hB1.block _ (lt_of_heap j0.out)).trans j0.out)
      | (go_at_call 95; refine (HO.out _).mono ?_; rintro e w0 ⟨rfl, hw0⟩; subst hw0))
    refine bodyPost_ret (v := .agg #[.slice none 0 0, .bool y.cell, .int .i64 y.n]) (by simp [results, Tryz.results68, go_sem, World.cell?_setCell_same', r0, r1, r2]) rfl ⟨none, 0, rfl, fun h => absurd rfl h, fun _ => by simp, ?_⟩
    iterate 3 (refine Below.setCell ?_ (by simp) _)
    exact hBw2
  | true =>
    rw [if_pos rfl]
    simp only at hsc
    obtain ⟨p0, P0, hP⟩ := Ar.splitBs_ne k1 ⟨#[44, 32]⟩
    have hlen := Ar.splitBs_len (s := k1) (sep := ⟨#[44, 32]⟩) (by decide)
    have hps : ∀ x ∈ Ar.splitBs k1 ⟨#[44, 32]⟩, x.size ≤ 1000000 := fun x hx => by have := Ar.splitBs_size hx; omega
    have HX := Lib.hid (fun W (hB : Below w.heap.size w W) => readBase_any k2 (by omega) W (hV.below hB) (hM.below hB))
    have HS := Lib.hid (fun W (hB : Below w.heap.size w W) => split_any k1 ⟨#[44, 32]⟩ (by omega) (by decide) W (hM.below hB))
    have HE := Lib.hid (fun W (W0 : World) (hB : Below w.heap.size w W) (hW : W = W0.alloc (.cells ((Ar.splitBs k1 ⟨#[44, 32]⟩).map Value.string).toArray 9)) => eachRB_any (Ar.splitBs k1 ⟨#[44, 32]⟩) W0.heap.size 0 (Ar.splitBs k1 ⟨#[44, 32]⟩).length W (by rw [hW]; exact strs_new W0 _) hps (hV.below hB) (hM.below hB) (by omega))
    have hlm : ((Ar.splitBs k1 ⟨#[44, 32]⟩).map Ar.readBs).length = (Ar.splitBs k1 ⟨#[44, 32]⟩).length := List.length_map _
    have hne : (Ar.splitBs k1 ⟨#[44, 32]⟩).map Ar.readBs ≠ [] := by rw [hP]; simp
    clear hP hV hM hsc hso hps
    generalize Ar.readBs k2 = y at *
    generalize Ar.splitBs k1 ⟨#[44, 32]⟩ = L at *
    generalize hm : L.map Ar.readBs = M at *
    have HLM := Lib.hid hlm
    have HNE := Lib.hid hne
    unfold tyV
    simp only
    rw [hlm]
    clear hm hlm hne
    go_enter Tryz.func68, Tryz.ntmps68
    go_wp2_with (first
      | (go_at_call 69; have _t := hB3; refine (HX.out _ hBw3).mono ?_; rintro e w4 ⟨rfl, hB4⟩; have hBw4 := hBw3.trans (hB4.mono hBw3.size); have j4 := (hB4.block _ (lt_of_heap j3)).trans j3; have HR4 := Lib.hid (own_ext HR3.out (Ext.of_below hB4 (Nat.le_refl _))); obtain ⟨r0, r1, r2⟩ := cells3 j4; have f0 := frz j4 0; have f1 := frz j4 1; have f2 := frz j4 2)
      | (go_at_call 96; refine (HE.out _ w1 hBw2 rfl).mono ?_; rintro e w3 ⟨A', c', rfl, hrow, hB3⟩; have hBw3 := hBw2.trans (hB3.mono hBw2.size); have j3 := (hB3.block _ (lt_of_heap j2)).trans j2; have HR3 := Lib.hid hrow)
      | (go_at_call 66; refine (HS.out _ hBw1).mono ?_; rintro e w2 ⟨rfl, hw2⟩; subst hw2; have hBw2 := hBw1.alloc hBw1.size (.cells (L.map Value.string).toArray 9); have j2 := (Below.heap_alloc w1 (.cells (L.map Value.string).toArray 9) _ (lt_of_heap j1)).trans j1)
      | (go_at_call 85; refine (HC.out _ hB0).mono ?_; rintro e w1 ⟨rfl, hB1⟩; have hBw1 := hB0.trans (hB1.mono hB0.size); have j1 := (hB1.block _ (lt_of_heap j0.out)).trans j0.out)
      | (go_at_call 95; refine (HO.out _).mono ?_; rintro e w0 ⟨rfl, hw0⟩; subst hw0))
    have hlt : w.heap.size < (w1.alloc (.cells (L.map Value.string).toArray 9)).heap.size := lt_of_heap j2
    have hOW := own_set (j := 2) (u := .int .i64 y.n) (own_set (j := 1) (u := .bool y.cell) (own_set (j := 0) (u := .slice A' L.length c') HR4.out hlt) hlt) hlt
    refine bodyPost_ret (v := .agg #[.slice A' L.length c', .bool y.cell, .int .i64 y.n]) (by simp [results, Tryz.results68, go_sem, World.cell?_setCell_same', r0, r1, r2]) rfl ⟨A', c', rfl, ?_, ?_, ?_⟩
    · exact (basO_of_own (l := M) (by rw [HLM.out]; exact hOW)).mono (Nat.le_of_lt hlt)
    · exact nilB_of_own (l := M) hOW HLM.out.symm
    · iterate 3 (refine Below.setCell ?_ (by simp) _)
      exact hBw4
end Go.Proofs.YtepdlghobopdbaaGreatDoor
