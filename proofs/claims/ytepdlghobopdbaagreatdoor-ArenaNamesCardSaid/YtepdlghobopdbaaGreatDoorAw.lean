/-
  WALKS: the places of which something is so.
-/
import Derived.Test.YtepdlghobopdbaaGreatDoorAv
namespace Go.Proofs.YtepdlghobopdbaaGreatDoor
open Go.RowKit Go.Shelf
attribute [local go_sem] Oper.semAt_some

set_option maxRecDepth 100000 in
set_option maxHeartbeats 4000000 in
theorem where1_ids (n : Nat) (hn : 1 ≤ n) (a : Ar.Are) (A : Option Addr) (c B : Nat) (P : Nat → Option Addr × Nat) (br bf : Nat) (hi8 : a.ids.length ≤ 1000) (hp5 : ∀ t ∈ a.ids, t.params.length ≤ 1000) :
    Gives n 79 #[] #[.pointer (some ⟨br, 0, none⟩), .pointer (some ⟨bf, 0, none⟩)] encPl ((Ar.placesOf a).filter Ar.isId) loopY (fun W => W.heap[br]? = some (rtO A c a) ∧ Boxed W bf 76 (.func (.func 34) #[] #[])) (fun W => Tys W B A P a.ids) := by
  intro y J Jx W hy hpre hinv hJ hJx hY h0
  obtain ⟨hr, hf⟩ := hpre
  refine callsIn_of_wp_marks Tryz.func79 rfl trivial ?_ rfl
  simp only [Tryz.ntmps79, List.size_toArray, List.length_cons, List.length_nil, Nat.reduceAdd, Nat.reduceSub, Array.replicate_succ, Array.replicate_zero, List.push_toArray, List.append_toArray, List.nil_append, List.cons_append]
  have HY := Lib.hid hY; clear hY
  have HJ := Lib.hid hJ; clear hJ
  have HJx := Lib.hid hJx; clear hJx
  have HI := Lib.hid hinv; clear hinv
  have HSO := Lib.hid (fun (W : World) (x : Ar.Pl) => isIdentifier_any x W)
  obtain ⟨l, rfl⟩ := hy
  have hE : Ext W.heap.size W (W.alloc (.cells #[yieldV l] 76)) := (Ext.refl _ _).alloc (Nat.le_refl _) _
  have hy0 := Lib.hid (World.alloc_heap_new W (.cells #[yieldV l] 76))
  have hsz : W.heap.size + 1 ≤ (W.alloc (.cells #[yieldV l] 76)).heap.size := by simp
  have hr0 := hE.cells _ _ hr rfl
  have hf0 := Ext.boxed hf hE
  skip
  obtain ⟨c0, c1, c2, c3⟩ := rtO_cells hr0
  have hj0 := Lib.hid (HJ.out [] _ _ hE h0)
  have HR0 := Lib.hid hr0; have HF0 := Lib.hid hf0
  skip
  clear hr hf hr0 hf0 h0 hE 
  gi_wp2
  generalize W.alloc (.cells #[yieldV l] 76) = Wl at *
  refine range_own hn (ba := #[arV A c a]) (lb := #[]) rfl (enters_of Tryz.func63 (by kernel_rfl) rfl) encPl_size ((places_gives 1 (Nat.le_refl _) a A c B P hi8 hp5).any) (fun l => ⟨l, rfl⟩) (fun _ _ => trivial)
    (fun pre W' => J (pre.filter Ar.isId) W' ∧ Boxed W' W.heap.size 76 (yieldV l) ∧ Boxed W' bf 76 (.func (.func 34) #[] #[])) Jx
    (fun pre W' h => HI.out _ W' h.1)
    (fun pre => ((HJ.out _).mono (by omega)).and ((lasts_boxed _ _ _ _).and (lasts_boxed _ _ _ _))) (HJx.out.mono (by omega)) ⟨hj0.out, hy0.out, HF0.out⟩
    (fun x a' W' => ∃ bx, W'.heap[bx]? = some (plO x) ∧ a' = { tmps := #[yieldV l, .pointer (some ⟨br, 0, none⟩), .pointer (some ⟨bf, 0, none⟩), .pointer (some ⟨W.heap.size, 0, none⟩), .pointer (some ⟨bx, 0, none⟩), .agg #[.slice A a.ids.length c, .bool a.root.cell, .int .i64 a.root.n, .bool a.jumps], .func (.func 63) #[.agg #[.slice A a.ids.length c, .bool a.root.cell, .int .i64 a.root.n, .bool a.jumps]] #[], .agg #[.bool x.base.cell, .int .i64 x.base.n, .int .i64 x.id, .int .i64 x.arg, .bool x.jumps], undef, undef, undef, undef, undef, undef, undef, undef, undef], defers := [] })
    (fun x a' A B e h => by obtain ⟨bx, h1, h2⟩ := h; exact ⟨bx, e.cells _ _ h1 rfl, h2⟩) ?assign ?body ?done ?stop
  case assign =>
    intro pre x suf W1 K hL hI hs hK
    unfold encPl plV
    gi_wp2
    exact hK _ _ ((Below.refl _ _).alloc (Nat.le_refl _) _) ⟨W1.heap.size, World.alloc_heap_new _ _, rfl⟩
  case body =>
    rintro pre x suf a' W1 hL ⟨hj, hyb, hfb⟩ hs ⟨bx, hbx, rfl⟩
    obtain ⟨m0, m1, m2, m3, m4⟩ := plO_cells hbx
    have cy := hyb.cell
    have cf := hfb.cell
    have HBX := Lib.hid hbx; have HYB := Lib.hid hyb; have HFB := Lib.hid hfb; have HJ1 := Lib.hid hj; have HL := Lib.hid hL
    skip
    clear hbx hyb hfb hj hL 
    have hso := HSO.out W1 x 
    unfold plV at hso
    cases hp : Ar.isId x
    · rw [hp] at hso
      have HS := Lib.hid hso; have HP := Lib.hid hp; clear hso hp
      gi_wp2_with (refine ⟨trivial, fun h => (by cases h), ?_⟩; refine (CallsIn.inRound _ (callsIn_wide.2 HS.out)).mono ?_; rintro e w2 ⟨rfl, hB2⟩; have k1 := Lib.hid (Ext.of_below (n₀ := W1.heap.size) hB2 (Nat.le_refl _)))
      refine ⟨fun _ h => (by cases h), ?_⟩
      gi_wp2
      exact ⟨Keep.below (hB2.mono (Nat.le_refl _)), by rw [List.filter_append, List.filter_cons, if_neg (by rw [HP.out]; decide), List.filter_nil, List.append_nil]; exact HJ.out _ _ _ (k1.out.mono (by omega)) HJ1.out, Ext.boxed HYB.out k1.out, Ext.boxed HFB.out k1.out⟩
    · rw [hp] at hso
      have HS := Lib.hid hso; have HP := Lib.hid hp; clear hso hp
      gi_wp2_with (refine ⟨trivial, fun h => (by cases h), ?_⟩; refine (CallsIn.inRound _ (callsIn_wide.2 HS.out)).mono ?_; rintro e w2 ⟨rfl, hB2⟩; have k1 := Lib.hid (Ext.of_below (n₀ := W1.heap.size) hB2 (Nat.le_refl _)); have b2 := Lib.hid (k1.out.cells _ _ HBX.out rfl); have y2 := Lib.hid (Ext.boxed HYB.out k1.out); obtain ⟨n0, n1, n2, n3, n4⟩ := plO_cells b2.out; have cy2 := y2.out.cell; have s2 := hB2.size; obtain ⟨fn, tmps, assign, body, hy, hR⟩ := ((HY.out (pre.filter Ar.isId) x (suf.filter Ar.isId) w2 (by rw [HL.out, List.filter_append, List.filter_cons, if_pos HP.out]) (by omega) (HJ.out _ _ _ (k1.out.mono (by omega)) HJ1.out)).any (m' := n - 1 - 1 - 1)).yield; unfold encPl plV at hy; have HR := Lib.hid hR; clear hR)
      refine ⟨fun h => (by cases h), RoundIn.mono (show RoundIn (Fence.wide.inRound (Wl.heap.size + 1)) _ _ _ _ _ _ _ _ _ from HR.out) ?_⟩
      rintro e W3 (⟨rfl, hJ3, hK3⟩ | ⟨rfl, hJx3, hK3⟩)
      · have y3 := Lib.hid (hK3.boxed y2.out (by decide) (by decide))
        have f3 := Lib.hid (hK3.boxed (Ext.boxed HFB.out k1.out) (by decide) (by decide))
        skip
        gi_wp2
        exact ⟨(Keep.below hB2).trans (hK3.mono (by omega)), by rw [List.filter_append, List.filter_cons, if_pos HP.out, List.filter_nil]; exact hJ3, y3.out, f3.out⟩
      · gi_wp2
        exact ⟨(Keep.below hB2).o.trans (hK3.mono (by omega)), hJx3⟩
  case done =>
    rintro W2 ⟨hj, -⟩ hD
    have HD := Lib.hid hD; have HJ2 := Lib.hid hj; clear hD hj
    gi_wp2
    refine ⟨by simp, .inl ⟨_, _, rfl, run_takeDeferred HD.out, ?_⟩⟩
    exact ⟨_, results_none rfl _ _ _, ⟨_, rfl⟩, .inl (HJ.out _ _ _ (Ext.put _ (by omega) HD.out rfl) HJ2.out)⟩
  case stop =>
    rintro W2 hx hD
    have HD := Lib.hid hD; clear hD
    gi_wp2
    refine ⟨by simp, .inl ⟨_, _, rfl, run_takeDeferred HD.out, ?_⟩⟩
    exact ⟨_, results_none rfl _ _ _, ⟨_, rfl⟩, .inr (HJx.out _ _ (Ext.put _ (by omega) HD.out rfl) hx)⟩

namespace Ar
def underIs (p0 p : Pl) : Bool := decide (p.id = p0.id) && !isId p
end Ar
set_option maxRecDepth 100000 in
set_option maxHeartbeats 1000000 in
theorem under1_any (p0 p : Ar.Pl) (bp : Nat) (w : World) (h : w.heap[bp]? = some (plO p0)) : Calls Tryz.prog 40 #[plV p, .pointer (some ⟨bp, 0, none⟩)] w fun e w' => e = .returned (.bool (Ar.underIs p0 p)) ∧ Below w.heap.size w w' := by
  have hw : Ar.underIs p0 p = (decide (p.id = p0.id) && !Ar.isId p) := rfl
  have HW := Lib.hid hw; clear hw
  have HI := Lib.hid (fun W => isIdentifier_any p W)
  have hB0 : Below w.heap.size w (w.alloc (plO p)) := (Below.refl _ _).alloc (Nat.le_refl _) _
  have h1 := (Below.heap_alloc w (plO p) _ (lt_of_heap h)).trans h
  obtain ⟨c0, c1, c2, c3, c4⟩ := plO_cells h1
  clear h1
  unfold plV at *
  unfold plO at *
  by_cases h2 : p.id = p0.id
  · have HQ : Hid (Ar.underIs p0 p = !Ar.isId p) := by rw [Hid, HW.out, decide_eq_true h2]; rfl
    have e1 : (p.id == p0.id) = true := by rw [beq_iff_eq]; exact h2
    clear HW h2 h
    generalize Ar.isId p = bi at *
    go_enter Tryz.func40, Tryz.ntmps40
    go_wp2_with (go_at_call 34; refine (HI.out _).mono ?_; rintro e w2 ⟨rfl, hB2⟩)
    go_ret
    exact ⟨ret_bool (by rw [HQ.out]), hB0.trans (hB2.mono hB0.size)⟩
  · have HQ : Hid (Ar.underIs p0 p = false) := by rw [Hid, HW.out, decide_eq_false h2]; rfl
    have e1 : (p.id == p0.id) = false := by rw [beq_eq_false_iff_ne]; exact h2
    clear HW h2 h
    go_enter Tryz.func40, Tryz.ntmps40
    go_wp2
    go_ret
    exact ⟨ret_bool HQ.out.symm, hB0⟩

set_option maxRecDepth 100000 in
set_option maxHeartbeats 4000000 in
theorem where1_inner (n : Nat) (hn : 1 ≤ n) (a : Ar.Are) (A : Option Addr) (c B : Nat) (P : Nat → Option Addr × Nat) (br bf : Nat) (bp : Nat) (p0 : Ar.Pl) (hi8 : a.ids.length ≤ 1000) (hp5 : ∀ t ∈ a.ids, t.params.length ≤ 1000) :
    Gives n 79 #[] #[.pointer (some ⟨br, 0, none⟩), .pointer (some ⟨bf, 0, none⟩)] encPl ((Ar.placesOf a).filter (Ar.underIs p0)) loopY (fun W => W.heap[br]? = some (rtO A c a) ∧ Boxed W bf 76 (.func (.func 40) #[] #[.pointer (some ⟨bp, 0, none⟩)]) ∧ W.heap[bp]? = some (plO p0)) (fun W => Tys W B A P a.ids) := by
  intro y J Jx W hy hpre hinv hJ hJx hY h0
  obtain ⟨hr, hf, hx0⟩ := hpre
  refine callsIn_of_wp_marks Tryz.func79 rfl trivial ?_ rfl
  simp only [Tryz.ntmps79, List.size_toArray, List.length_cons, List.length_nil, Nat.reduceAdd, Nat.reduceSub, Array.replicate_succ, Array.replicate_zero, List.push_toArray, List.append_toArray, List.nil_append, List.cons_append]
  have HY := Lib.hid hY; clear hY
  have HJ := Lib.hid hJ; clear hJ
  have HJx := Lib.hid hJx; clear hJx
  have HI := Lib.hid hinv; clear hinv
  have HSO := Lib.hid (fun (W : World) (x : Ar.Pl) (h : W.heap[bp]? = some (plO p0)) => under1_any p0 x bp W h)
  obtain ⟨l, rfl⟩ := hy
  have hE : Ext W.heap.size W (W.alloc (.cells #[yieldV l] 76)) := (Ext.refl _ _).alloc (Nat.le_refl _) _
  have hy0 := Lib.hid (World.alloc_heap_new W (.cells #[yieldV l] 76))
  have hsz : W.heap.size + 1 ≤ (W.alloc (.cells #[yieldV l] 76)).heap.size := by simp
  have hr0 := hE.cells _ _ hr rfl
  have hf0 := Ext.boxed hf hE
  have hx1 := hE.cells _ _ hx0 rfl
  obtain ⟨c0, c1, c2, c3⟩ := rtO_cells hr0
  have hj0 := Lib.hid (HJ.out [] _ _ hE h0)
  have HR0 := Lib.hid hr0; have HF0 := Lib.hid hf0
  have HX1 := Lib.hid hx1
  clear hr hf hr0 hf0 h0 hE hx0 hx1
  gi_wp2
  generalize W.alloc (.cells #[yieldV l] 76) = Wl at *
  refine range_own hn (ba := #[arV A c a]) (lb := #[]) rfl (enters_of Tryz.func63 (by kernel_rfl) rfl) encPl_size ((places_gives 1 (Nat.le_refl _) a A c B P hi8 hp5).any) (fun l => ⟨l, rfl⟩) (fun _ _ => trivial)
    (fun pre W' => J (pre.filter (Ar.underIs p0)) W' ∧ Boxed W' W.heap.size 76 (yieldV l) ∧ Boxed W' bf 76 (.func (.func 40) #[] #[.pointer (some ⟨bp, 0, none⟩)]) ∧ W'.heap[bp]? = some (plO p0)) Jx
    (fun pre W' h => HI.out _ W' h.1)
    (fun pre => ((HJ.out _).mono (by omega)).and ((lasts_boxed _ _ _ _).and (Lasts.and (lasts_boxed _ _ _ _) (fun A B e h => e.cells _ _ h rfl)))) (HJx.out.mono (by omega)) ⟨hj0.out, hy0.out, HF0.out, HX1.out⟩
    (fun x a' W' => ∃ bx, W'.heap[bx]? = some (plO x) ∧ a' = { tmps := #[yieldV l, .pointer (some ⟨br, 0, none⟩), .pointer (some ⟨bf, 0, none⟩), .pointer (some ⟨W.heap.size, 0, none⟩), .pointer (some ⟨bx, 0, none⟩), .agg #[.slice A a.ids.length c, .bool a.root.cell, .int .i64 a.root.n, .bool a.jumps], .func (.func 63) #[.agg #[.slice A a.ids.length c, .bool a.root.cell, .int .i64 a.root.n, .bool a.jumps]] #[], .agg #[.bool x.base.cell, .int .i64 x.base.n, .int .i64 x.id, .int .i64 x.arg, .bool x.jumps], undef, undef, undef, undef, undef, undef, undef, undef, undef], defers := [] })
    (fun x a' A B e h => by obtain ⟨bx, h1, h2⟩ := h; exact ⟨bx, e.cells _ _ h1 rfl, h2⟩) ?assign ?body ?done ?stop
  case assign =>
    intro pre x suf W1 K hL hI hs hK
    unfold encPl plV
    gi_wp2
    exact hK _ _ ((Below.refl _ _).alloc (Nat.le_refl _) _) ⟨W1.heap.size, World.alloc_heap_new _ _, rfl⟩
  case body =>
    rintro pre x suf a' W1 hL ⟨hj, hyb, hfb, hxb⟩ hs ⟨bx, hbx, rfl⟩
    obtain ⟨m0, m1, m2, m3, m4⟩ := plO_cells hbx
    have cy := hyb.cell
    have cf := hfb.cell
    have HBX := Lib.hid hbx; have HYB := Lib.hid hyb; have HFB := Lib.hid hfb; have HJ1 := Lib.hid hj; have HL := Lib.hid hL
    have HXB := Lib.hid hxb
    clear hbx hyb hfb hj hL hxb
    have hso := HSO.out W1 x HXB.out
    unfold plV at hso
    cases hp : (Ar.underIs p0) x
    · rw [hp] at hso
      have HS := Lib.hid hso; have HP := Lib.hid hp; clear hso hp
      gi_wp2_with (refine ⟨trivial, fun h => (by cases h), ?_⟩; refine (CallsIn.inRound _ (callsIn_wide.2 HS.out)).mono ?_; rintro e w2 ⟨rfl, hB2⟩; have k1 := Lib.hid (Ext.of_below (n₀ := W1.heap.size) hB2 (Nat.le_refl _)))
      refine ⟨fun _ h => (by cases h), ?_⟩
      gi_wp2
      exact ⟨Keep.below (hB2.mono (Nat.le_refl _)), by rw [List.filter_append, List.filter_cons, if_neg (by rw [HP.out]; decide), List.filter_nil, List.append_nil]; exact HJ.out _ _ _ (k1.out.mono (by omega)) HJ1.out, Ext.boxed HYB.out k1.out, Ext.boxed HFB.out k1.out, k1.out.cells _ _ HXB.out rfl⟩
    · rw [hp] at hso
      have HS := Lib.hid hso; have HP := Lib.hid hp; clear hso hp
      gi_wp2_with (refine ⟨trivial, fun h => (by cases h), ?_⟩; refine (CallsIn.inRound _ (callsIn_wide.2 HS.out)).mono ?_; rintro e w2 ⟨rfl, hB2⟩; have k1 := Lib.hid (Ext.of_below (n₀ := W1.heap.size) hB2 (Nat.le_refl _)); have b2 := Lib.hid (k1.out.cells _ _ HBX.out rfl); have y2 := Lib.hid (Ext.boxed HYB.out k1.out); obtain ⟨n0, n1, n2, n3, n4⟩ := plO_cells b2.out; have cy2 := y2.out.cell; have s2 := hB2.size; obtain ⟨fn, tmps, assign, body, hy, hR⟩ := ((HY.out (pre.filter (Ar.underIs p0)) x (suf.filter (Ar.underIs p0)) w2 (by rw [HL.out, List.filter_append, List.filter_cons, if_pos HP.out]) (by omega) (HJ.out _ _ _ (k1.out.mono (by omega)) HJ1.out)).any (m' := n - 1 - 1 - 1)).yield; unfold encPl plV at hy; have HR := Lib.hid hR; clear hR)
      refine ⟨fun h => (by cases h), RoundIn.mono (show RoundIn (Fence.wide.inRound (Wl.heap.size + 1)) _ _ _ _ _ _ _ _ _ from HR.out) ?_⟩
      rintro e W3 (⟨rfl, hJ3, hK3⟩ | ⟨rfl, hJx3, hK3⟩)
      · have y3 := Lib.hid (hK3.boxed y2.out (by decide) (by decide))
        have f3 := Lib.hid (hK3.boxed (Ext.boxed HFB.out k1.out) (by decide) (by decide))
        have x3 := Lib.hid (hK3.same _ _ (k1.out.cells _ _ HXB.out rfl) ⟨by decide, by decide⟩)
        gi_wp2
        exact ⟨(Keep.below hB2).trans (hK3.mono (by omega)), by rw [List.filter_append, List.filter_cons, if_pos HP.out, List.filter_nil]; exact hJ3, y3.out, f3.out, x3.out⟩
      · gi_wp2
        exact ⟨(Keep.below hB2).o.trans (hK3.mono (by omega)), hJx3⟩
  case done =>
    rintro W2 ⟨hj, -⟩ hD
    have HD := Lib.hid hD; have HJ2 := Lib.hid hj; clear hD hj
    gi_wp2
    refine ⟨by simp, .inl ⟨_, _, rfl, run_takeDeferred HD.out, ?_⟩⟩
    exact ⟨_, results_none rfl _ _ _, ⟨_, rfl⟩, .inl (HJ.out _ _ _ (Ext.put _ (by omega) HD.out rfl) HJ2.out)⟩
  case stop =>
    rintro W2 hx hD
    have HD := Lib.hid hD; clear hD
    gi_wp2
    refine ⟨by simp, .inl ⟨_, _, rfl, run_takeDeferred HD.out, ?_⟩⟩
    exact ⟨_, results_none rfl _ _ _, ⟨_, rfl⟩, .inr (HJx.out _ _ (Ext.put _ (by omega) HD.out rfl) hx)⟩
end Go.Proofs.YtepdlghobopdbaaGreatDoor
