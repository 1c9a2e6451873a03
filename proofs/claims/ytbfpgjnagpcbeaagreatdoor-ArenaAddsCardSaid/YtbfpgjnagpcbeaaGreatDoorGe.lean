/-
  WALKS: the reference: Add.
-/
import Derived.Test.YtbfpgjnagpcbeaaGreatDoorGa
namespace Go.Proofs.YtbfpgjnagpcbeaaGreatDoor
open Go.RowKit Go.Shelf

set_option maxRecDepth 100000 in
set_option maxHeartbeats 8000000 in
theorem refAdd_any (a : Ar.Are) (l : List Ar.Ty) (A B : Option Addr) (c d : Nat) (P Q : Nat → Option Addr × Nat) (w : World) (hA : ArM w A P a) (hU : Tys w w.heap.size B Q l)
    (hPn : ∀ i t, a.ids[i]? = some t → (P i).1 = none → (P i).2 = 0 ∧ t.params = []) (hQn : ∀ i t, l[i]? = some t → (Q i).1 = none → (Q i).2 = 0 ∧ t.params = []) (h1 : a.ids.length ≤ 1000) (h2 : l.length ≤ 1000) (h3 : ∀ t ∈ l, t.params.length ≤ 1000000) :
    Calls Tryz.prog 40 #[.agg #[.slice A a.ids.length c, .bool a.root.cell, .int .i64 a.root.n, .bool a.jumps], .slice B l.length d] w fun e w' => ∃ A' c' P', e = .returned (.tuple #[.agg #[.slice A' (Ar.addRes a l).ids.length c', .bool (Ar.addRes a l).root.cell, .int .i64 (Ar.addRes a l).root.n, .bool (Ar.addRes a l).jumps], .int .i64 (Ar.addErr a l : Int)]) ∧ ArM w' A' P' (Ar.addRes a l) ∧ Below w.heap.size w w' := by
  obtain ⟨i0, hi, hz0, hz1, hz2⟩ := info_parts infoTy
  have HF := Lib.hid (AD.first w a A a.ids.length c)
  obtain ⟨e0, e1, e2, e3, -, -, -, -⟩ := cells4 HF.out.arg
  have HC := Lib.hid (fun W (hB : Below w.heap.size w W) => show Calls Tryz.prog 24 #[.agg #[.slice A a.ids.length c, .bool a.root.cell, .int .i64 a.root.n, .bool a.jumps]] W fun e w' => e = .returned (.int .i64 (Ar.checkOf a : Int)) ∧ Below W.heap.size W w' from refCheck_any a A c P W (hA.below hB))
  by_cases hk : Ar.checkOf a = 0
  · have hal : (Ar.addOf a l).ids.length = a.ids.length + l.length := List.length_append
    have HCP := Lib.hid (fun W (hB : Below w.heap.size w W) => show Calls Tryz.prog 18 #[.agg #[.slice A a.ids.length c, .bool a.root.cell, .int .i64 a.root.n, .bool a.jumps]] W _ from copyOwn_any a A c P W (hA.below hB) hPn)
    have HPAR := Lib.hid h3
    have HT := Lib.hid hU
    have HN := Lib.hid hQn
    have hpar : ∀ t ∈ (Ar.addOf a l).ids, t.params.length ≤ 1000000 := fun t ht => by
      rcases List.mem_append.1 ht with ht | ht
      · exact hA.par t ht
      · exact h3 t ht
    have HPA := Lib.hid hpar
    have HE1 := Lib.hid (fun (h : Ar.checkOf (Ar.addOf a l) = 0) => (show Ar.addErr a l = 0 ∧ Ar.addRes a l = Ar.addOf a l by
      have he : Ar.addErr a l = 0 := by unfold Ar.addErr; rw [if_pos hk]; exact h
      exact ⟨he, by unfold Ar.addRes; rw [if_pos he]⟩))
    have HE2 := Lib.hid (fun (h : Ar.checkOf (Ar.addOf a l) ≠ 0) => (show Ar.addErr a l = Ar.checkOf (Ar.addOf a l) ∧ Ar.addRes a l = Ar.noAre by
      have he : Ar.addErr a l = Ar.checkOf (Ar.addOf a l) := by unfold Ar.addErr; rw [if_pos hk]
      exact ⟨he, by unfold Ar.addRes; rw [if_neg (by rw [he]; exact h)]⟩))
    rw [hk] at HC
    clear hA hU hPn hQn h3 hpar
    go_enter Tryz.func40, Tryz.ntmps40
    go_wp2_with (first
      | (go_at_call 18; refine (HCP.out _ hF2.below).mono ?_; rintro e w3 ⟨A3, c3, L3, rfl, hL3, hrow3, hpt3, hB3, hz3⟩; have hF3 := hF2.next hB3)
      | (go_at_call 24; refine (HC.out _ HF.out.below).mono ?_; rintro e w2 ⟨rfl, hB2⟩; have hF2 := HF.out.next hB2; obtain ⟨x0, x1, x2, x3, -, -, -, -⟩ := cells4 hF2.arg))
    have hal3 : Below w3.heap.size w3 (w3.alloc (.cells #[.slice A3 a.ids.length c3, .bool a.root.cell, .int .i64 a.root.n, .bool a.jumps] 26 (0, 0))) := (Below.refl _ _).alloc (Nat.le_refl _) _
    have HD4 := Lib.hid (hF3.next hal3)
    have HK4 := Lib.hid (World.alloc_heap_new w3 (.cells #[.slice A3 a.ids.length c3, .bool a.root.cell, .int .i64 a.root.n, .bool a.jumps] 26 (0, 0)))
    have HR4 := Lib.hid (hrow3.alloc (.cells #[.slice A3 a.ids.length c3, .bool a.root.cell, .int .i64 a.root.n, .bool a.jumps] 26 (0, 0)))
    have HP4 := Lib.hid (fun x hx => (hpt3 x hx).keep (KB.below hal3))
    have HL3 := Lib.hid hL3
    have g1 : w.heap.size + 1 < w2.heap.size := lt_of_heap hF2.res
    obtain ⟨bb, hbb⟩ : ∃ bb, bb = w2.heap.size + 3 := ⟨_, rfl⟩
    rw [← hbb] at HR4 HP4 hz3
    have q1 : w.heap.size + 1 < bb := by omega
    have q2 : w.heap.size + 1 < w3.heap.size := by omega
    clear x0 x1 x2 x3 e0 e1 e2 e3 hal3 hrow3 hpt3 hL3 g1 hF2 hF3 hB2 hB3 HC HCP
    generalize (w3.alloc (.cells #[.slice A3 a.ids.length c3, .bool a.root.cell, .int .i64 a.root.n, .bool a.jumps] 26 (0, 0))) = W4 at *
    go_loopw [8] (fun i wr => ∃ (k : Nat) (L : List Pt) (A9 : Option Addr) (c9 : Nat), k ≤ l.length ∧ i = .int .i64 k ∧ Hid (L.map Prod.fst = a.ids ++ l.take k) ∧ Hid (L.length = a.ids.length + k) ∧ Hid (wr.ownsRow bb 64 3 (.slice A9 (a.ids.length + k) c9) (a.ids.length + k) (L.flatMap ptCells)) ∧ Hid (∀ x ∈ L, PtO wr bb x) ∧ Hid (AD w a A a.ids.length c wr) ∧ Hid (wr.heap[w3.heap.size]? = some (.cells #[.slice A9 (a.ids.length + k) c9, .bool a.root.cell, .int .i64 a.root.n, .bool a.jumps] 26 (0, 0)))) (fun i _ => l.length - (intOf i).toNat)
    case atStart => exact ⟨0, L3, A3, c3, Nat.zero_le _, rfl, by rw [Hid, List.take_zero, List.append_nil]; exact HL3.out, by rw [Hid, ← HL3.out, List.length_map]; rfl, HR4.out, HP4.out, HD4.out, HK4.out⟩
    case round =>
      obtain ⟨k, L, A9, c9, hk, rfl, hL, hLk, hrow, hpt, hD, hb3⟩ := hrel
      have hB : Hid (Below w.heap.size w wr) := hD.out.below
      by_cases hlt : k < l.length
      · obtain ⟨t, ht⟩ : ∃ t, l[k]? = some t := ⟨_, List.getElem?_eq_getElem hlt⟩
        obtain ⟨b, off, hA, hbB, hc⟩ := HT.out (by intro e; rw [e] at hlt; simp at hlt)
        obtain ⟨c0', c1', c2', hbas⟩ := hc k t ht
        have c0 := (hB.out.cell (p := ⟨b, off + k * 3, none⟩) hbB).trans c0'
        have c1 := (hB.out.cell (p := ⟨b, off + k * 3 + 1, none⟩) hbB).trans c1'
        have c2 := (hB.out.cell (p := ⟨b, off + k * 3 + 2, none⟩) hbB).trans c2'
        have ht5 := HPAR.out t (List.mem_of_getElem? ht)
        have hnil := HN.out k t ht
        have HTT := Lib.hid ht
        generalize (Q k).1 = PA at *
        generalize (Q k).2 = pc at *
        have HCT := Lib.hid (fun W (hBW : Below w.heap.size w W) => copyType_any PA pc t W ht5 ((hbas.below hBW).mono hBW.size) hnil)
        obtain ⟨d0, d1, d2, d3, f0, -⟩ := cells4 hb3.out
        have hszr : bb ≤ wr.heap.size := by have := lt_of_heap hb3.out; omega
        have HSZ := Lib.hid hszr
        have n1 : b ≠ w3.heap.size := by omega
        clear hc hbas ht hnil c0' c1' c2' hszr
        subst hA
        unfold tyV at HCT
        have hq0 : (0 : Int) ≤ (k : Int) := by omega
        have hq1 : (k : Int) < (l.length : Int) := by omega
        go_wp2
        go_region_law (first
            | (go_simp; go_at_call 54; refine (HCT.out _ hB.out.drew).mono ?_; rintro e w4 ⟨A', c', rfl, hbo, hnl, hB4⟩; have hr4 := Lib.hid (own_ext (A := wr.drew) hrow.out (Ext.of_below hB4 (Nat.le_refl _))); have hbo4 := Lib.hid hbo; have hnl4 := Lib.hid hnl; clear hbo hnl; have hk3 := Lib.hid ((hB4.block _ (lt_of_heap hb3.out)).trans hb3.out); obtain ⟨x0, x1, x2, x3, xf, -, -, -⟩ := cells4 hk3.out; have hk5 := Lib.hid ((Below.heap_alloc w4 (.cells #[.slice A' t.params.length c', .bool t.result.cell, .int .i64 t.result.n] 64 (0, 0)) _ (lt_of_heap hk3.out)).trans hk3.out); obtain ⟨v0, v1, v2, v3, vf, -, -, -⟩ := cells4 hk5.out)
            | (refine step_append_any _ (by rfl) _ _ _ (by rfl) bb 64 i0 _ 3 40 Tryz.underlying22 hi hz0 hz1 hz2 rfl (by omega) (.slice A9 (a.ids.length + k) c9) (a.ids.length + k) (L.flatMap ptCells) (by rfl) (hr4.out.alloc _) (some ⟨w4.heap.size, 0, none⟩) 1 1 (a.ids.length + (k + 1)) rfl (ptCells (t, (A', c'))) (by rfl) (fun h => by cases h) rfl (fun ad had j u hu => by cases had; exact World.news_of_block (cs := (ptCells (t, (A', c'))).toArray) (t := 64) (fr := (0, 0)) (World.alloc_heap_new w4 _) j u hu) (ptCells_one _) (by unfold maxLen; omega) (by omega) (Nat.le_trans HSZ.out (Nat.le_trans hB4.size (by rw [size_alloc]; exact Nat.le_succ _))) ?_; intro A8 c8 w9 hown9 hgrow; have hr5 := Lib.hid (hr4.out.alloc (.cells (ptCells (t, (A', c'))).toArray 64 (0, 0))); have hk9 := Lib.hid (grown_type hr5.out hgrow hk5.out (by decide)); obtain ⟨z0, z1, z2, z3, y0, -, -, -⟩ := cells4 hk9.out))
        all_goals go_wp2
        all_goals
          clear z0 z1 z2 z3 y0 x0 x1 x2 x3 xf v0 v1 v2 v3 vf d0 d1 d2 d3 f0 c0 c1 c2
          go_roundw
          case rel =>
            have kb1 : KB bb w4 (w9.setCell ⟨w3.heap.size, 0, none⟩ (.slice A8 (a.ids.length + (k + 1)) c8)) := (KB.below ((Below.refl _ _).alloc (Nat.le_refl _) _)).trans ((KB.grown hr5.out hgrow (by decide)).trans (KB.set_type _ hk9.out (by decide)))
            have kb : KB bb wr.drew (w9.setCell ⟨w3.heap.size, 0, none⟩ (.slice A8 (a.ids.length + (k + 1)) c8)) := (KB.below hB4).trans kb1
            have far : ∀ (q : Nat) (o : Obj), q < w.heap.size + 2 → wr.heap[q]? = some o → (w9.setCell ⟨w3.heap.size, 0, none⟩ (.slice A8 (a.ids.length + (k + 1)) c8)).heap[q]? = some o := fun q o hq ho => (Below.heap_setCell _ _ _ _ (by simp; omega)).trans (grown_far hr5.out hgrow ((Below.heap_alloc w4 _ _ (Nat.lt_of_lt_of_le (lt_of_heap ho) hB4.size)).trans ((hB4.block _ (lt_of_heap ho)).trans ho)) (by omega))
            have hsz4 : w.heap.size ≤ w4.heap.size := Nat.le_trans hB.out.size hB4.size
            refine ⟨k + 1, L ++ [(t, (A', c'))], A8, c8, by omega, by go_num, ?_, ?_, ?_, ?_, ⟨?_, far _ _ (by omega) hD.out.arg, far _ _ (by omega) hD.out.res⟩, set_block hk9.out⟩
            · rw [Hid, List.map_append, hL.out, List.take_succ_eq_append_getElem hlt, show l[k] = t by have := HTT.out; rw [List.getElem?_eq_getElem hlt] at this; exact Option.some.inj this, List.append_assoc]; rfl
            · rw [Hid, List.length_append, hLk.out]; rfl
            · rw [Hid, List.flatMap_append, List.flatMap_singleton]
              exact own_set_type hown9 hk9.out (by decide)
            · intro x hx
              rcases List.mem_append.1 hx with hx | hx
              · exact PtO.keep (W := wr.drew) (hpt.out x hx) kb
              · obtain rfl := List.mem_singleton.1 hx
                exact ⟨(hbo4.out.mono HSZ.out).keep kb1, hnl4.out⟩
            · exact (((hB.out.drew.trans (hB4.mono hB.out.size)).alloc hsz4 _).grown hgrow (by rw [size_alloc]; exact Nat.le_succ_of_le hsz4) (fun j e => by have := own_low hr5.out e; omega)).setCell (p := ⟨w3.heap.size, 0, none⟩) (by simp; omega) _
          case measure => simp [intOf]; omega
      · obtain rfl : k = l.length := by omega
        have hle : ¬ ((l.length : Int) < (l.length : Int)) := by omega
        have hlL : L.map Prod.fst = (Ar.addOf a l).ids := by rw [hL.out, List.take_length]; rfl
        have hlen : (Ar.addOf a l).ids.length ≤ 1000000 := by rw [hal]; omega
        have hrow' : wr.ownsRow bb 64 3 (.slice A9 (a.ids.length + l.length) c9) L.length (L.flatMap ptCells) := by rw [hLk.out]; exact hrow.out
        have hO := arO_of_row (a := Ar.addOf a l) hlL hrow' hpt.out hlen HPA.out
        have hck : Calls Tryz.prog 24 #[.agg #[.slice A9 (Ar.addOf a l).ids.length c9, .bool a.root.cell, .int .i64 a.root.n, .bool a.jumps]] wr fun e w' => e = .returned (.int .i64 (Ar.checkOf (Ar.addOf a l) : Int)) ∧ Below wr.heap.size wr w' := refCheck_any (Ar.addOf a l) A9 c9 (ptP L) wr hO.m
        rw [hal] at hck
        obtain ⟨d0, d1, d2, d3, -, -, -, -⟩ := cells4 hb3.out
        have HLL := Lib.hid hlL; have HLE := Lib.hid hlen; have HRW := Lib.hid hrow'; have HHE := Lib.hid hle
        by_cases hk2 : Ar.checkOf (Ar.addOf a l) = 0
        · obtain ⟨he, hr⟩ := HE1.out hk2
          have HEE := Lib.hid he; have HRR := Lib.hid hr; have HAA := Lib.hid hal
          rw [hk2] at hck
          have HCK := Lib.hid hck
          clear hk2 he hr hck hlL hlen hrow' hO hle hrow hal
          go_wp2_with (go_at_call 24; refine HCK.out.mono ?_; rintro e w5 ⟨rfl, hB5⟩; have hD5 := hD.out.next hB5; obtain ⟨v0, v1, v2, v3, -, -, -, -⟩ := cells4 ((hB5.block _ (lt_of_heap hb3.out)).trans hb3.out); obtain ⟨u0, u1, u2, u3, k0, k1, k2, k3⟩ := cells4 hD5.res)
          have hOW := own_set (j := 3) (u := .bool a.jumps) (own_set (j := 2) (u := .int .i64 a.root.n) (own_set (j := 1) (u := .bool a.root.cell) (own_set (j := 0) (u := .slice A9 (a.ids.length + l.length) c9) (own_ext HRW.out (Ext.of_below hB5 (Nat.le_refl _))) q1) q1) q1) q1
          have kb : KB bb wr ((((w5.setCell ⟨w.heap.size + 1, 0, none⟩ (.slice A9 (a.ids.length + l.length) c9)).setCell ⟨w.heap.size + 1, 1, none⟩ (.bool a.root.cell)).setCell ⟨w.heap.size + 1, 2, none⟩ (.int .i64 a.root.n)).setCell ⟨w.heap.size + 1, 3, none⟩ (.bool a.jumps)) := (KB.below hB5).trans ((KB.set _ q1).trans ((KB.set _ q1).trans ((KB.set _ q1).trans (KB.set _ q1))))
          have hfin := arO_of_row (a := Ar.addOf a l) HLL.out hOW (fun x hx => (hpt.out x hx).keep kb) HLE.out HPA.out
          refine bodyPost_ret (v := .tuple #[.agg #[.slice A9 (a.ids.length + l.length) c9, .bool a.root.cell, .int .i64 a.root.n, .bool a.jumps], .int .i64 0]) (by simp [results, Tryz.results40, go_sem, World.cell?_setCell_same', u0, u1, u2, u3]) rfl ⟨A9, c9, ptP L, by rw [HEE.out, HRR.out, HAA.out] <;> rfl, by rw [HRR.out]; exact hfin.m, ?_⟩
          iterate 4 (refine Below.setCell ?_ (by simp) _)
          exact hD5.below
        · obtain ⟨he, hr⟩ := HE2.out hk2
          have HEE := Lib.hid he; have HRR := Lib.hid hr
          have hne : ((Ar.checkOf (Ar.addOf a l) : Int) != 0) = true := by rw [bne_iff_ne]; omega
          have HCK := Lib.hid hck
          clear hk2 he hr hck hlL hlen hrow' hO hle hrow
          generalize Ar.checkOf (Ar.addOf a l) = er at *
          go_wp2_with (go_at_call 24; refine HCK.out.mono ?_; rintro e w5 ⟨rfl, hB5⟩; have hD5 := hD.out.next hB5; obtain ⟨u0, u1, u2, u3, k0, k1, k2, k3⟩ := cells4 hD5.res)
          refine bodyPost_ret (v := .tuple #[.agg #[.slice none 0 0, .bool false, .int .i64 0, .bool false], .int .i64 (er : Int)]) (by simp [results, Tryz.results40, go_sem, World.cell?_setCell_same', u0, u1, u2, u3]) rfl ⟨none, 0, fun _ => (none, 0), by rw [HEE.out, HRR.out] <;> rfl, by rw [HRR.out]; exact noAre_w _ _ _, ?_⟩
          iterate 4 (refine Below.setCell ?_ (by simp) _)
          exact hD5.below
  · have he : Ar.addErr a l = Ar.checkOf a := by unfold Ar.addErr; rw [if_neg hk]
    have hr : Ar.addRes a l = Ar.noAre := by unfold Ar.addRes; rw [if_neg (by rw [he]; exact hk)]
    rw [he, hr]
    have hne : ((Ar.checkOf a : Int) != 0) = true := by rw [bne_iff_ne]; omega
    clear hA hU hPn hQn h1 h2 h3 hk he hr
    generalize Ar.checkOf a = er at *
    go_enter Tryz.func40, Tryz.ntmps40
    go_wp2_with (go_at_call 24; refine (HC.out _ HF.out.below).mono ?_; rintro e w2 ⟨rfl, hB2⟩; have hF2 := HF.out.next hB2; obtain ⟨q0, q1, q2, q3, p0, p1, p2, p3⟩ := cells4 hF2.res)
    refine bodyPost_ret (v := .tuple #[.agg #[.slice none 0 0, .bool false, .int .i64 0, .bool false], .int .i64 (er : Int)]) (by simp [results, Tryz.results40, go_sem, World.cell?_setCell_same', q0, q1, q2, q3]) rfl ⟨none, 0, fun _ => (none, 0), rfl, noAre_w _ _ _, ?_⟩
    iterate 4 (refine Below.setCell ?_ (by simp) _)
    exact hF2.below
end Go.Proofs.YtbfpgjnagpcbeaaGreatDoor
