/-
  WALKS: the reference: a type read loosely.
-/
import Derived.Test.YtepdlghobopdbaaGreatDoorHi
namespace Go.Proofs.YtepdlghobopdbaaGreatDoor
open Go.RowKit Go.MapKept Go.Shelf

theorem refTy_plain {s x0 xl : ByteArray} {l : List ByteArray} {k : Nat} (h : Ar.splitBs s ⟨#[41, 32, 45, 62, 32]⟩ = x0 :: l) (hk : l.length = k) (hl : (x0 :: l)[k]? = some xl) :
    Ar.refTy s = ⟨if Lib.hasPrefix s.data.toList [40] = true then (Ar.splitBs (x0.extract 1 x0.size) ⟨#[44, 32]⟩).map Ar.refBs else [], Ar.refBs xl⟩ := by
  unfold Ar.refTy
  rw [h]
  have e : (x0 :: l).getLastD ⟨#[]⟩ = xl := by
    rw [List.getLastD_eq_getLast?, List.getLast?_eq_getElem?, List.length_cons, Nat.add_sub_cancel, hk, hl]
    rfl
  rw [e]
  rfl
/-- A text that begins with a bracket: so does its first part. -/
theorem head_open {s x0 : ByteArray} {l : List ByteArray} (h : Ar.splitBs s ⟨#[41, 32, 45, 62, 32]⟩ = x0 :: l) (hp : Lib.hasPrefix s.data.toList [40] = true) : 1 ≤ x0.size := by
  obtain ⟨r, hr⟩ := List.isPrefixOf_iff_prefix.1 hp
  have hlist := Ar.splitBs_list s ⟨#[41, 32, 45, 62, 32]⟩
  rw [h, List.map_cons] at hlist
  rcases Lib.indexB_cases s ⟨#[41, 32, 45, 62, 32]⟩ with hx | ⟨i, hx, hroom⟩
  · unfold Ar.splitBs at h
    rw [Lib.countB_miss _ _ hx, Lib.splitB_zero] at h
    injection h with h _
    subst h
    show 1 ≤ s.data.toList.length
    rw [← hr]; simp
  · unfold Ar.splitBs at h
    rw [Lib.countB_hit _ _ _ (by decide) hx, Nat.add_comm 1, Lib.splitB_hit _ _ _ _ _ hx] at h
    injection h with h _
    subst h
    rcases Nat.eq_zero_or_pos i with h0 | h0
    · subst h0
      exfalso
      have hx' : Lib.index s.data.toList [41, 32, 45, 62, 32] = 0 := hx
      rw [← hr] at hx'
      unfold Lib.index at hx'
      simp only [List.cons_append, List.nil_append] at hx'
      have hnp : List.isPrefixOf [41, 32, 45, 62, 32] ((40 : UInt8) :: r) = false := by simp [List.isPrefixOf]
      rw [if_neg (by rw [hnp]; decide)] at hx'
      split at hx'
      · omega
      · have := Lib.index_ge r [41, 32, 45, 62, 32]
        rename_i hne
        rw [beq_iff_eq] at hne
        omega
    · rw [ByteArray.size_extract]; omega

/-- What lies in the blocks of readType, while params are read. -/
structure RT (w : World) (b g : Nat) (PL : List ByteArray) (A : Option Addr) (k c : Nat) (y : Ar.Bs) (W : World) : Prop where
  below : Below w.heap.size w W
  res : W.heap[w.heap.size]? = some (.cells #[.slice none 0 0, .bool false, .int .i64 0] 53 (0, 0))
  ty : W.heap[b]? = some (.cells #[.slice A k c, .bool y.cell, .int .i64 y.n] 53 (0, 0))
  par : StrB W g PL
theorem RT.next {w W W' : World} {b g : Nat} {PL : List ByteArray} {A : Option Addr} {k c : Nat} {y : Ar.Bs} (h : RT w b g PL A k c y W) (hB : Below W.heap.size W W') : RT w b g PL A k c y W' :=
  ⟨h.below.trans (hB.mono h.below.size), (hB.block _ (lt_of_heap h.res)).trans h.res, (hB.block _ (lt_of_heap h.ty)).trans h.ty, h.par.next hB⟩

set_option maxRecDepth 100000 in
set_option maxHeartbeats 8000000 in
theorem refType_any (s : ByteArray) (hs : s.size ≤ 900000) (w : World) :
    Calls Tryz.prog 30 #[.string s] w fun e w' => ∃ (A' : Option Addr) (c' : Nat), e = .returned (tyV A' c' (Ar.refTy s)) ∧ BasO w' w.heap.size A' (Ar.refTy s).params ∧ (A' = none → c' = 0 ∧ (Ar.refTy s).params = []) ∧ Below w.heap.size w w' := by
  have hB0 : Below w.heap.size w (w.alloc (.cells #[.slice none 0 0, .bool false, .int .i64 0] 53 (0, 0))) := (Below.refl _ _).alloc (Nat.le_refl _) _
  have j0 := Lib.hid (World.alloc_heap_new w (.cells #[.slice none 0 0, .bool false, .int .i64 0] 53 (0, 0)))
  obtain ⟨x0, l, hL⟩ := Ar.splitBs_ne s ⟨#[41, 32, 45, 62, 32]⟩
  obtain ⟨k, hk⟩ : ∃ k, l.length = k := ⟨_, rfl⟩
  obtain ⟨xl, hl⟩ : ∃ xl, (x0 :: l)[k]? = some xl := ⟨_, List.getElem?_eq_getElem (by rw [List.length_cons]; omega)⟩
  have hall : ∀ x ∈ x0 :: l, x.size ≤ 900000 := fun x hx => by
    rw [← hL] at hx
    have := Ar.splitBs_size hx
    omega
  have hx0 := hall x0 (by simp)
  have hxl := hall xl (List.mem_of_getElem? hl)
  have hpl := refTy_plain hL hk hl
  have hkle : k ≤ 1000000 := by
    have := Ar.splitBs_len (s := s) (sep := ⟨#[41, 32, 45, 62, 32]⟩) (by decide)
    rw [hL, List.length_cons] at this
    omega
  have HS := Lib.hid (fun W => (refSplit_strs s ⟨#[41, 32, 45, 62, 32]⟩ (by omega) (by decide) (by decide) W).mono fun (e : Ending) (w' : World) h => (show ∃ g c', e = .returned (.slice (some ⟨g, 0, none⟩) (k + 1) c') ∧ W.heap.size ≤ g ∧ StrB w' g (x0 :: l) ∧ Below W.heap.size W w' from by rw [hL, List.length_cons, hk] at h; exact h))
  have HR := Lib.hid (fun W => refBase_any xl (by omega) W)
  have HBG := Lib.hid (fun W => show Calls Tryz.prog 70 #[.string s, .string ⟨#[40]⟩] W fun e w' => e = .returned (.bool (Lib.hasPrefix s.data.toList [40])) ∧ w' = W from begins_any s ⟨#[40]⟩ W)
  have hq0 : (0 : Int) ≤ (k : Int) := by omega
  have hq1 : (k : Int) < ((k + 1 : Nat) : Int) := by omega
  have hq2 : wrap64 (((k + 1 : Nat) : Int) - 1) = (k : Int) := by unfold wrap64; omega
  have hq3 : IntKind.i64.wrap (((k + 1 : Nat) : Int) - 1) = (k : Int) := by rw [IntWalk.i64_left]; exact hq2
  have hq4 : (0 : Int) < ((k + 1 : Nat) : Int) := by omega
  rw [hpl]
  unfold tyV
  have HXL : Hid ((x0 :: l)[k]? = some xl) := hl
  generalize hn : k + 1 = n at *
  cases hp : Lib.hasPrefix s.data.toList [40] with
  | false =>
    rw [hp] at HBG
    rw [if_neg (by decide)]
    clear hp hL hall hx0 hxl hpl hkle hs hk hl hn
    generalize Ar.refBs xl = y at *
    go_enter Tryz.func30, Tryz.ntmps30
    go_wp2_with (first
      | (go_at_call 70; refine (HBG.out _).mono ?_; rintro e w3 ⟨rfl, hw3⟩; subst hw3)
      | (go_at_call 29; refine (HR.out _).mono ?_; rintro e w2 ⟨rfl, hB2⟩; have hBw2 := hBw1.trans (hB2.mono hBw1.size); have j2 := (hB2.block _ (lt_of_heap j1)).trans j1; have hAl := (Below.refl w2.heap.size w2).alloc (Nat.le_refl _) (.cells #[.slice none 0 0, .bool y.cell, .int .i64 y.n] 53 (0, 0)); have hBw3 := hBw2.trans (hAl.mono hBw2.size); have j3 := (hAl.block _ (lt_of_heap j2)).trans j2; have i3 := World.alloc_heap_new w2 (.cells #[.slice none 0 0, .bool y.cell, .int .i64 y.n] 53 (0, 0)); obtain ⟨r0, r1, r2⟩ := cells3 j3; have f0 := frz j3 0; have f1 := frz j3 1; have f2 := frz j3 2; obtain ⟨x0', x1', x2'⟩ := cells3 i3)
      | (go_at_call 28; refine (HS.out _).mono ?_; rintro e w1 ⟨g, c', rfl, hg, hst, hB1⟩; have hBw1 := hB0.trans (hB1.mono hB0.size); have j1 := (hB1.block _ (lt_of_heap j0.out)).trans j0.out; have cl := hst.cell HXL.out))
    refine bodyPost_ret (v := .agg #[.slice none 0 0, .bool y.cell, .int .i64 y.n]) (by simp [results, Tryz.results30, go_sem, World.cell?_setCell_same', r0, r1, r2]) rfl ⟨none, 0, rfl, fun h => absurd rfl h, fun _ => by simp, ?_⟩
    iterate 3 (refine Below.setCell ?_ (by simp) _)
    exact hBw3
  | true =>
    have hx1 := head_open hL hp
    rw [hp] at HBG
    rw [if_pos rfl]
    have hxe : (x0.extract 1 x0.size).size ≤ 900000 := by rw [ByteArray.size_extract]; omega
    have HS2 := Lib.hid (fun W => refSplit_strs (x0.extract 1 x0.size) ⟨#[44, 32]⟩ (by omega) (by decide) (by decide) W)
    have hps : ∀ x ∈ Ar.splitBs (x0.extract 1 x0.size) ⟨#[44, 32]⟩, x.size ≤ 1000000 := fun x hx => by
      have := Ar.splitBs_size hx
      omega
    have hpn : (Ar.splitBs (x0.extract 1 x0.size) ⟨#[44, 32]⟩).length ≤ 1000000 := by
      have := Ar.splitBs_len (s := x0.extract 1 x0.size) (sep := ⟨#[44, 32]⟩) (by decide)
      omega
    have hx1' : (1 : Int) ≤ (x0.size : Int) := by omega
    generalize hPL : Ar.splitBs (x0.extract 1 x0.size) ⟨#[44, 32]⟩ = PL at *
    generalize hxx : x0.extract 1 x0.size = xx at *
    have HPS := Lib.hid hps
    have HRB := Lib.hid (fun (x : ByteArray) (hx : x ∈ PL) W => refBase_any x (hps x hx) W)
    simp only [List.length_map]
    clear hp hL hall hx0 hxl hpl hkle hs hk hl hn hps hxe hx1 hPL
    generalize Ar.refBs xl = y at *
    obtain ⟨i0, hi, hz0, hz1, hz2⟩ := info_parts infoBase
    go_enter Tryz.func30, Tryz.ntmps30
    go_wp2_with (first
      | (go_at_call 28; have _t := hmark; refine (HS2.out _).mono ?_; rintro e w5 ⟨g2, c2, rfl, hg2, hst2, hB5⟩; have hRT : RT w w2.heap.size g2 PL none 0 0 y w5 := ⟨hBw3.trans (hB5.mono hBw3.size), (hB5.block _ (lt_of_heap j3)).trans j3, (hB5.block _ (lt_of_heap i3)).trans i3, hst2⟩)
      | (go_at_call 70; refine (HBG.out _).mono ?_; rintro e w3 ⟨rfl, hw3⟩; subst hw3; have hmark := True.intro)
      | (go_at_call 29; refine (HR.out _).mono ?_; rintro e w2 ⟨rfl, hB2⟩; have hBw2 := hBw1.trans (hB2.mono hBw1.size); have j2 := (hB2.block _ (lt_of_heap j1)).trans j1; have hAl := (Below.refl w2.heap.size w2).alloc (Nat.le_refl _) (.cells #[.slice none 0 0, .bool y.cell, .int .i64 y.n] 53 (0, 0)); have hBw3 := hBw2.trans (hAl.mono hBw2.size); have j3 := (hAl.block _ (lt_of_heap j2)).trans j2; have i3 := World.alloc_heap_new w2 (.cells #[.slice none 0 0, .bool y.cell, .int .i64 y.n] 53 (0, 0)); have hst3 := (hst.next hB2).next hAl; have cx := hst3.cell (i := 0) (x := x0) rfl)
      | (go_at_call 28; refine (HS.out _).mono ?_; rintro e w1 ⟨g, c', rfl, hg, hst, hB1⟩; have hBw1 := hB0.trans (hB1.mono hB0.size); have j1 := (hB1.block _ (lt_of_heap j0.out)).trans j0.out; have cl := hst.cell HXL.out))
    have hlt1 : w.heap.size < w2.heap.size := lt_of_heap j2
    have hlt2 : w2.heap.size < w5.heap.size := lt_of_heap hRT.ty
    have hng : w2.heap.size ≠ g2 := by rw [size_alloc] at hg2; omega
    have hng2 : w.heap.size ≠ g2 := by rw [size_alloc] at hg2; omega
    have HSZ2 : Hid (w2.heap.size + 1 ≤ w5.heap.size) := hlt2
    have HLT1 := Lib.hid hlt1
    have HNG := Lib.hid hng; have HNG2 := Lib.hid hng2
    have HRT := Lib.hid hRT
    generalize hbb : w2.heap.size = b at *
    clear j3 i3 hst3 cx hAl hBw3 hRT hst2 hst hbb hlt2 hng hng2 hlt1 j2 hBw2 hB2 j1 cl hBw1 hB1 hg hg2 hB5
    go_loopw [6] (fun i wr => ∃ (k : Nat) (A9 : Option Addr) (c9 : Nat), k ≤ PL.length ∧ i = .int .i64 k ∧ Hid (wr.ownsRow (b + 1) 25 2 (.slice A9 k c9) k (((PL.take k).map Ar.refBs).flatMap bsCells)) ∧ Hid (RT w b g2 PL A9 k c9 y wr) ∧ Hid (b + 1 ≤ wr.heap.size)) (fun i _ => PL.length - (intOf i).toNat)
    case atStart => exact ⟨0, none, 0, Nat.zero_le _, rfl, World.ownsRow_nil _ _ _ _, HRT.out, HSZ2.out⟩
    case round =>
      obtain ⟨k, A9, c9, hk, rfl, hrow, hrt, hsz⟩ := hrel
      obtain ⟨d0, d1, d2⟩ := cells3 hrt.out.ty
      have hf0 := frz hrt.out.ty 0
      by_cases hlt : k < PL.length
      · obtain ⟨x, hx⟩ : ∃ x, PL[k]? = some x := ⟨_, List.getElem?_eq_getElem hlt⟩
        have c0 := hrt.out.par.cell hx
        have HX := Lib.hid hx
        have HC := Lib.hid (HRB.out x (List.mem_of_getElem? hx))
        have hp0 : (0 : Int) ≤ (k : Int) := by omega
        have hp1 : (k : Int) < (PL.length : Int) := by omega
        generalize hy : Ar.refBs x = z at *
        have HY := Lib.hid hy
        clear hx hy
        go_wp2
        go_region_law (first
          | (go_simp; go_at_call 29; refine (HC.out _).mono ?_; rintro e w6 ⟨rfl, hB6⟩; have hr6 := Lib.hid (own_ext (A := wr.drew) hrow.out (Ext.of_below hB6 (Nat.le_refl _))); have hrt6 := Lib.hid ((hrt.out.next ((Below.refl _ _).drew)).next hB6); obtain ⟨x0', x1', x2'⟩ := cells3 hrt6.out.ty; have xf := frz hrt6.out.ty 0; have hrt7 := Lib.hid (hrt6.out.next ((Below.refl w6.heap.size w6).alloc (Nat.le_refl _) (.cells #[.bool z.cell, .int .i64 z.n] 25 (0, 0)))); obtain ⟨v0, v1, v2⟩ := cells3 hrt7.out.ty; have vf := frz hrt7.out.ty 0)
          | (refine step_append_any _ (by rfl) _ _ _ (by rfl) (b + 1) 25 i0 _ 2 16 Tryz.underlying51 hi hz0 hz1 hz2 rfl (by omega) (.slice A9 k c9) k (((PL.take k).map Ar.refBs).flatMap bsCells) (by rfl) (hr6.out.alloc _) (some ⟨w6.heap.size, 0, none⟩) 1 1 (k + 1) rfl (bsCells z) (by rfl) (fun h => by cases h) rfl (fun ad had j u hu => by cases had; exact World.news_of_block (cs := (bsCells z).toArray) (t := 25) (fr := (0, 0)) (World.alloc_heap_new w6 _) j u hu) (bsCell_one _) (by unfold maxLen; omega) (by omega) (Nat.le_trans hsz.out (Nat.le_trans hB6.size (by rw [size_alloc]; exact Nat.le_succ _))) ?_; intro A8 c8 w9 hown9 hgrow; have hr7 := Lib.hid (hr6.out.alloc (.cells (bsCells z).toArray 25 (0, 0))); have hk9 := Lib.hid (grown_far hr7.out hgrow hrt7.out.ty (Nat.lt_succ_self b)); obtain ⟨z0, z1, z2⟩ := cells3 hk9.out; have zf := frz hk9.out 0))
        all_goals go_wp2
        all_goals
          clear z0 z1 z2 zf x0' x1' x2' xf v0 v1 v2 vf d0 d1 d2 hf0 c0
          go_roundw
          case rel =>
            have n2 : b < b + 1 := Nat.lt_succ_self b
            have n3 : w.heap.size < b + 1 := Nat.lt_succ_of_lt HLT1.out
            have n4 : w.heap.size ≠ b := Nat.ne_of_lt HLT1.out
            have n5 : g2 ≠ b := fun e => HNG.out e.symm
            have n6 : w.heap.size ≤ b := Nat.le_of_lt HLT1.out
            have hs6 : w.heap.size ≤ (w6.alloc (.cells (bsCells z).toArray 25 (0, 0))).heap.size := hrt7.out.below.size
            refine ⟨k + 1, A8, c8, by omega, by go_num, ?_, ⟨?_, ?_, set_block hk9.out, ?_⟩, ?_⟩
            · rw [Hid, List.take_succ_eq_append_getElem hlt, List.map_append, List.flatMap_append, List.map_singleton, List.flatMap_singleton, show PL[k] = x by have := HX.out; rw [List.getElem?_eq_getElem hlt] at this; exact Option.some.inj this, HY.out]
              exact own_set hown9 n2
            · exact (hrt7.out.below.grown hgrow hs6 (fun j e => by have := own_low hr7.out e; omega)).setCell (p := ⟨b, 0, none⟩) n6 _
            · exact (Below.heap_setCell _ _ _ _ n4).trans (grown_far hr7.out hgrow hrt7.out.res n3)
            · exact (hrt7.out.par.grown hr7.out hgrow (by decide)).set n5
            · rw [Hid, World.size_setCell]
              exact Nat.le_trans hsz.out (Nat.le_trans hB6.size (Nat.le_trans (by rw [size_alloc]; exact Nat.le_succ _) hgrow.size))
          case measure => simp [intOf]; omega
      · obtain rfl : k = PL.length := by omega
        have hrow2 := hrow.out
        rw [List.take_length] at hrow2
        obtain ⟨r0, r1, r2⟩ := cells3 hrt.out.res
        have f0 := frz hrt.out.res 0
        have f1 := frz hrt.out.res 1
        have f2 := frz hrt.out.res 2
        have HROW := Lib.hid hrow2
        clear hrow2
        go_wp2
        have n3 : w.heap.size < b + 1 := Nat.lt_succ_of_lt HLT1.out
        have hOW := own_set (j := 2) (u := .int .i64 y.n) (own_set (j := 1) (u := .bool y.cell) (own_set (j := 0) (u := .slice A9 PL.length c9) HROW.out n3) n3) n3
        refine bodyPost_ret (v := .agg #[.slice A9 PL.length c9, .bool y.cell, .int .i64 y.n]) (by simp [results, Tryz.results30, go_sem, World.cell?_setCell_same', r0, r1, r2]) rfl ⟨A9, c9, rfl, ?_, ?_, ?_⟩
        · exact (basO_of_own (l := PL.map Ar.refBs) (by rw [List.length_map]; exact hOW)).mono (Nat.le_of_lt n3)
        · exact nilB_of_own (l := PL.map Ar.refBs) hOW (by rw [List.length_map])
        · iterate 3 (refine Below.setCell ?_ (by simp) _)
          exact hrt.out.below
end Go.Proofs.YtepdlghobopdbaaGreatDoor
