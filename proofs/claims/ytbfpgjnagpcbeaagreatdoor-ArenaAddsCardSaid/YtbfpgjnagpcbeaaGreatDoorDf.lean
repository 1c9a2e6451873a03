/-
  WALKS: the reference's arena of what stands for an identifier.
-/
import Derived.Test.YtbfpgjnagpcbeaaGreatDoorDe
namespace Go.Proofs.YtbfpgjnagpcbeaaGreatDoor
open Go.RowKit Go.Shelf

namespace Ar
theorem innerErr_no {a : Are} {id : Int} (h0 : checkOf a = 0) (h : id < 1 ∨ (a.ids.length : Int) < id) : innerErr a id = 7 ∧ innerRes a id = noAre := by
  have he : innerErr a id = 7 := by
    unfold innerErr
    rw [if_pos h0, at_of]
    unfold placeOf
    by_cases h1 : id = 0
    · rw [if_pos ⟨h1, rfl⟩]
      simp only [Option.map_some]
      rw [if_neg]
      unfold isId
      rw [h1]
      exact Bool.false_ne_true
    · rw [if_neg (fun e => h1 e.1), if_pos h]
      rfl
  refine ⟨he, ?_⟩
  unfold innerRes
  rw [he]; rfl
theorem innerErr_yes {a : Are} {k : Nat} {t : Ty} (h0 : checkOf a = 0) (h : a.ids[k]? = some t) : innerErr a ((k : Int) + 1) = 0 ∧ innerRes a ((k : Int) + 1) = innerOf a t := by
  have he : innerErr a ((k : Int) + 1) = 0 := by
    unfold innerErr
    rw [if_pos h0, at_of, placeOf_id h]
    simp only [Option.map_some]
    rw [if_pos]
    unfold isId
    rw [Bool.and_eq_true]
    exact ⟨decide_eq_true (by simp only; omega), decide_eq_true rfl⟩
  refine ⟨he, ?_⟩
  unfold innerRes
  rw [he, if_pos rfl, show ((k : Int) + 1 - 1).toNat = k by omega, h]
end Ar
theorem aloneCells_one (x : Ar.Bs) : ∀ u ∈ aloneCells x, u.oneCell' = true := fun u hu => by
  simp only [aloneCells, List.mem_cons, List.not_mem_nil, or_false] at hu
  rcases hu with rfl | rfl | rfl <;> rfl

set_option maxRecDepth 100000 in
set_option maxHeartbeats 8000000 in
theorem refInner_any (a : Ar.Are) (A : Option Addr) (c : Nat) (P : Nat → Option Addr × Nat) (id : Int) (w : World) (hA : ArM w A P a) :
    Calls Tryz.prog 38 #[arV A c a, .int .i64 id] w (InnerPost w (Ar.innerRes a id) (Ar.innerErr a id)) := by
  obtain ⟨i0, hi, hz0, hz1, hz2⟩ := info_parts infoTy
  have hlen := hA.len
  have hav : arV A c a = .agg #[.slice A a.ids.length c, .bool a.root.cell, .int .i64 a.root.n, .bool a.jumps] := rfl
  have hB0 := below_two (w := w) (.cells #[.slice A a.ids.length c, .bool a.root.cell, .int .i64 a.root.n, .bool a.jumps] 26 (0, 0)) (.cells #[.slice none 0 0, .bool false, .int .i64 0, .bool false] 26 (0, 0))
  have h1 := Lib.hid (two_new1 w (.cells #[.slice A a.ids.length c, .bool a.root.cell, .int .i64 a.root.n, .bool a.jumps] 26 (0, 0)) (.cells #[.slice none 0 0, .bool false, .int .i64 0, .bool false] 26 (0, 0)))
  have h2 := Lib.hid (two_new2 w (.cells #[.slice A a.ids.length c, .bool a.root.cell, .int .i64 a.root.n, .bool a.jumps] 26 (0, 0)) (.cells #[.slice none 0 0, .bool false, .int .i64 0, .bool false] 26 (0, 0)))
  have HC := Lib.hid (refCheck_any a A c P _ (hA.below hB0))
  have HT := Lib.hid hA
  rw [hav] at HC ⊢
  have HB0 := Lib.hid hB0
  obtain ⟨e0, e1, e2, e3, -, -, -, -⟩ := cells4 h1.out
  clear hA hav hB0
  by_cases h0 : Ar.checkOf a = 0
  · rw [h0] at HC
    by_cases h3 : id < 1 ∨ (a.ids.length : Int) < id
    · obtain ⟨q1, q2⟩ := Ar.innerErr_no h0 h3
      rw [q1, q2]
      have HI := inIs_no h3
      clear h0 h3 q1 q2
      go_enter Tryz.func38, Tryz.ntmps38
      go_wp2_with (first
        | (go_at_call 89; refine (in_is (by assumption) _).mono ?_; rintro e w2 ⟨rfl, rfl⟩)
        | (go_at_call 24; refine HC.out.mono ?_; rintro e w2 ⟨rfl, hB2⟩; have hBw2 := HB0.out.trans (hB2.mono HB0.out.size); obtain ⟨d0, d1, d2, d3, -, -, -, -⟩ := cells4 ((hB2.block _ (lt_of_heap h1.out)).trans h1.out); have k2 := Lib.hid ((hB2.block _ (lt_of_heap h2.out)).trans h2.out); obtain ⟨r0, r1, r2, r3, s0, s1, s2, s3⟩ := cells4 k2.out))
      refine bodyPost_ret (v := .tuple #[.agg #[.slice none 0 0, .bool false, .int .i64 0, .bool false], .int .i64 7]) (by simp [results, Tryz.results38, go_sem, World.cell?_setCell_same', r0, r1, r2, r3]) rfl ⟨none, 0, fun _ => (none, 0), rfl, noAre_m _, ?_⟩
      iterate 4 (refine Below.setCell ?_ (by simp) _)
      exact hBw2
    · obtain ⟨k, rfl⟩ : ∃ k : Nat, id = (k : Int) + 1 := ⟨(id - 1).toNat, by omega⟩
      have hk : k < a.ids.length := by omega
      obtain ⟨t, ht⟩ : ∃ t, a.ids[k]? = some t := ⟨_, List.getElem?_eq_getElem hk⟩
      obtain ⟨q1, q2⟩ := Ar.innerErr_yes h0 ht
      rw [q1, q2]
      have ht5 := HT.out.par t (List.mem_of_getElem? ht)
      obtain ⟨b, off, hAe, hbB, hc⟩ := (HT.out.tys) (by intro e; rw [e] at hk; simp at hk)
      obtain ⟨c0, c1, c2, hbas⟩ := hc k t ht
      have HBAS := Lib.hid hbas
      have HI1 := inIs_yes (n := (k : Int) + 1) (l := 1) (h := (a.ids.length : Int)) (by omega) (by omega)
      have HC0 := Lib.hid c0; have HC1 := Lib.hid c1; have HC2 := Lib.hid c2
      generalize (P k).1 = PA at *
      generalize (P k).2 = pc at *
      have hkk : (k : Int) + 1 - 1 = (k : Int) := by omega
      have hw1 : IntKind.i64.wrap ((k : Int) + 1 - 1) = (k : Int) := by rw [hkk]; exact IntWalk.i64_in _ (by omega)
      have hw2 : IntKind.i64.wrap (k : Int) = (k : Int) := IntWalk.i64_in _ (by omega)
      have hb0 : (0 : Int) ≤ (k : Int) := by omega
      have hb1 : (k : Int) < (a.ids.length : Int) := by omega
      have hb2 : (k : Int) ≤ (a.ids.length : Int) := by omega
      clear hc c0 c1 c2 ht hbas h0 h3 q1 q2
      subst hAe
      obtain ⟨JX, hJX⟩ : ∃ J, (a.jumps || decide (0 < t.params.length)) = J := ⟨_, rfl⟩
      have HJX := Lib.hid hJX
      cases hj : a.jumps
      all_goals
        rw [hj] at hJX e3
        first
          | have HJ : Hid (JX = true) := by rw [Hid, ← hJX]; rfl
          | have HJ : Hid (JX = decide (0 < t.params.length)) := by rw [Hid, ← hJX, Bool.false_or]
        have HJA := Lib.hid hj
        clear hJX hj
        rw [HJA.out] at h1 h2 HC HB0
        go_enter Tryz.func38, Tryz.ntmps38
        go_wp2_with (first
          | (go_at_call 89; refine (in_is (by assumption) _).mono ?_; rintro e w2 ⟨rfl, rfl⟩)
          | (go_at_call 24; refine HC.out.mono ?_; rintro e w2 ⟨rfl, hB2⟩; have hBw2 := HB0.out.trans (hB2.mono HB0.out.size); obtain ⟨d0, d1, d2, d3, -, -, -, -⟩ := cells4 ((hB2.block _ (lt_of_heap h1.out)).trans h1.out); have k2 := Lib.hid ((hB2.block _ (lt_of_heap h2.out)).trans h2.out); have x0 := (hBw2.cell (p := ⟨b, off + k * 3, none⟩) hbB).trans HC0.out; have x1 := (hBw2.cell (p := ⟨b, off + k * 3 + 1, none⟩) hbB).trans HC1.out; have x2 := (hBw2.cell (p := ⟨b, off + k * 3 + 2, none⟩) hbB).trans HC2.out; have k7 := Lib.hid ((hB2.block _ (lt_of_heap h1.out)).trans h1.out); obtain ⟨z0, z1, z2, z3, -, -, -, -⟩ := cells4 ((Below.heap_alloc w2 (.cells #[.slice PA t.params.length pc, .bool t.result.cell, .int .i64 t.result.n] 64 (0, 0)) _ (lt_of_heap k7.out)).trans k7.out)))
        clear z0 z1 z2 z3 x0 x1 x2 d0 d1 d2 d3 e0 e1 e2 e3
        go_loopw [9] (fun i wr => ∃ (j : Nat) (A9 : Option Addr) (c9 : Nat), j ≤ t.params.length ∧ i = .int .i64 j ∧ Hid (wr.ownsRow (w2.heap.size + 2) 64 3 (.slice A9 j c9) j ((t.params.take j).flatMap aloneCells)) ∧ Hid (Below w.heap.size w wr) ∧ Hid (wr.heap[w2.heap.size]? = some (.cells #[.slice PA t.params.length pc, .bool t.result.cell, .int .i64 t.result.n] 64 (0, 0))) ∧
          Hid (wr.heap[w2.heap.size + 1]? = some (.cells #[.slice A9 j c9, .bool t.result.cell, .int .i64 t.result.n, .bool JX] 26 (0, 0))) ∧ Hid (wr.heap[w.heap.size + 1]? = some (.cells #[.slice none 0 0, .bool false, .int .i64 0, .bool false] 26 (0, 0)))) (fun i _ => t.params.length - (intOf i).toNat)
        case atStart =>
          refine ⟨0, none, 0, Nat.zero_le _, rfl, World.ownsRow_nil _ _ _ _, (hBw2.alloc hBw2.size _).alloc (by rw [size_alloc]; exact Nat.le_succ_of_le hBw2.size) _, two_new1 w2 _ _, ?_, (Below.heap_alloc _ _ _ (by rw [size_alloc]; exact Nat.lt_succ_of_lt (lt_of_heap k2.out))).trans ((Below.heap_alloc _ _ _ (lt_of_heap k2.out)).trans k2.out)⟩
          rw [HJ.out]
          exact two_new2 w2 _ _
        case round =>
          obtain ⟨j, A9, c9, hj, rfl, hrow, hB, hbt, hbo, hbz⟩ := hrel
          obtain ⟨e0, e1, e2⟩ := cells3 hbt.out
          obtain ⟨d0, d1, d2, d3, f0, -, -, -⟩ := cells4 hbo.out
          by_cases hlt : j < t.params.length
          · obtain ⟨x, hx⟩ : ∃ x, t.params[j]? = some x := ⟨_, List.getElem?_eq_getElem hlt⟩
            obtain ⟨pb, poff, hpa, hpB, hpc⟩ := (HBAS.out.below hB.out) (by intro e; rw [e] at hlt; simp at hlt)
            obtain ⟨y0, y1⟩ := hpc j x hx
            have HX := Lib.hid hx
            have hk5 := Lib.hid ((Below.heap_alloc wr (.cells #[.slice none 0 0, .bool x.cell, .int .i64 x.n] 64 (0, 0)) _ (lt_of_heap hbo.out)).trans hbo.out)
            obtain ⟨v0, v1, v2, v3, vf, -, -, -⟩ := cells4 hk5.out
            have hq0 : (0 : Int) ≤ (j : Int) := by omega
            have hq1 : (j : Int) < (t.params.length : Int) := by omega
            have hr5 : Hid ((wr.alloc (.cells #[.slice none 0 0, .bool x.cell, .int .i64 x.n] 64 (0, 0))).drew.ownsRow (w2.heap.size + 2) 64 3 (.slice A9 j c9) j ((t.params.take j).flatMap aloneCells)) := hrow.out.alloc _
            have hnw : Hid (∀ ad, some (⟨wr.heap.size, 0, none⟩ : Addr) = some ad → ∀ q u, (aloneCells x)[q]? = some u → (wr.alloc (.cells #[.slice none 0 0, .bool x.cell, .int .i64 x.n] 64 (0, 0))).drew.cell? (ad.add q) = some u) := fun ad had q u hu => by cases had; exact World.news_of_block (cs := (aloneCells x).toArray) (t := 64) (fr := (0, 0)) (World.alloc_heap_new wr _) q u hu
            have HSZ : Hid (w2.heap.size + 2 ≤ (wr.alloc (.cells #[.slice none 0 0, .bool x.cell, .int .i64 x.n] 64 (0, 0))).drew.heap.size) := Nat.le_trans (show w2.heap.size + 2 ≤ wr.heap.size by have := lt_of_heap hbo.out; omega) (by show wr.heap.size ≤ (wr.alloc _).heap.size; rw [size_alloc]; exact Nat.le_succ _)
            clear hx hpc
            subst hpa
            go_wp2
            go_region_law (refine step_append_any _ (by rfl) _ _ _ (by rfl) (w2.heap.size + 2) 64 i0 _ 3 40 Tryz.underlying22 hi hz0 hz1 hz2 rfl (by omega) (.slice A9 j c9) j ((t.params.take j).flatMap aloneCells) (by rfl) hr5.out (some ⟨wr.heap.size, 0, none⟩) 1 1 (j + 1) rfl (aloneCells x) (by rfl) (fun h => by cases h) rfl hnw.out (aloneCells_one _) (by unfold maxLen; omega) (by omega) HSZ.out ?_; intro A8 c8 w9 hown9 hgrow; have hk9 := Lib.hid (grown_far hr5.out hgrow hk5.out (show w2.heap.size + 1 < w2.heap.size + 2 by omega)); obtain ⟨z0, z1, z2, z3, y9, -, -, -⟩ := cells4 hk9.out)
            all_goals go_wp2
            all_goals
              clear z0 z1 z2 z3 y9 v0 v1 v2 v3 vf d0 d1 d2 d3 f0 e0 e1 e2 y0 y1
              go_roundw
              case rel =>
                have n2 : w2.heap.size + 1 < w2.heap.size + 2 := by omega
                have far : ∀ (q : Nat) (o : Obj), q < w2.heap.size + 1 → wr.heap[q]? = some o → (w9.setCell ⟨w2.heap.size + 1, 0, none⟩ (.slice A8 (j + 1) c8)).heap[q]? = some o := fun q o hq ho => (Below.heap_setCell _ _ _ _ (by simp; omega)).trans (grown_far hr5.out hgrow ((Below.heap_alloc wr _ _ (lt_of_heap ho)).trans ho) (by omega))
                have hs2 : w.heap.size ≤ w2.heap.size := hBw2.size
                have hl2 : w.heap.size + 1 < w2.heap.size := lt_of_heap k2.out
                refine ⟨j + 1, A8, c8, by omega, by go_num, ?_, ?_, far _ _ (by omega) hbt.out, set_block hk9.out, far _ _ (by omega) hbz.out⟩
                · rw [Hid, List.take_succ_eq_append_getElem hlt, List.flatMap_append, List.flatMap_singleton, show t.params[j] = x by have := HX.out; rw [List.getElem?_eq_getElem hlt] at this; exact Option.some.inj this]
                  exact own_set hown9 n2
                · exact ((hB.out.alloc hB.out.size _).drew.grown hgrow (by show w.heap.size ≤ (wr.alloc _).heap.size; rw [size_alloc]; exact Nat.le_succ_of_le hB.out.size) (fun j e => by have := own_low hr5.out e; omega)).setCell (p := ⟨w2.heap.size + 1, 0, none⟩) (by simp; omega) _
              case measure => simp [intOf]; omega
          · obtain rfl : j = t.params.length := by omega
            have hrow2 := hrow.out
            rw [List.take_length] at hrow2
            have HR := Lib.hid hrow2
            clear hrow2 hrow
            obtain ⟨r0, r1, r2, r3, s0, s1, s2, s3⟩ := cells4 hbz.out
            go_wp2
            refine bodyPost_ret (v := .tuple #[.agg #[.slice A9 t.params.length c9, .bool t.result.cell, .int .i64 t.result.n, .bool JX], .int .i64 0]) (by simp [results, Tryz.results38, go_sem, World.cell?_setCell_same', r0, r1, r2, r3]) rfl ?_
            rw [← HJX.out]
            exact inner_fin a t ht5 hB.out HR.out (by have := lt_of_heap k2.out; omega)
  · have hfe : Ar.innerErr a id = Ar.checkOf a := by unfold Ar.innerErr; rw [if_neg h0]
    have hir : Ar.innerRes a id = Ar.noAre := by unfold Ar.innerRes; rw [hfe, if_neg h0]
    rw [hfe, hir]
    have hne : ((Ar.checkOf a : Int) != 0) = true := by rw [bne_iff_ne]; omega
    clear hfe hir h0
    generalize Ar.checkOf a = er at *
    go_enter Tryz.func38, Tryz.ntmps38
    go_wp2_with (go_at_call 24; refine HC.out.mono ?_; rintro e w2 ⟨rfl, hB2⟩; have hBw2 := HB0.out.trans (hB2.mono HB0.out.size); have k2 := Lib.hid ((hB2.block _ (lt_of_heap h2.out)).trans h2.out); obtain ⟨r0, r1, r2, r3, s0, s1, s2, s3⟩ := cells4 k2.out)
    refine bodyPost_ret (v := .tuple #[.agg #[.slice none 0 0, .bool false, .int .i64 0, .bool false], .int .i64 (er : Int)]) (by simp [results, Tryz.results38, go_sem, World.cell?_setCell_same', r0, r1, r2, r3]) rfl ⟨none, 0, fun _ => (none, 0), rfl, noAre_m _, ?_⟩
    iterate 4 (refine Below.setCell ?_ (by simp) _)
    exact hBw2
end Go.Proofs.YtbfpgjnagpcbeaaGreatDoor
