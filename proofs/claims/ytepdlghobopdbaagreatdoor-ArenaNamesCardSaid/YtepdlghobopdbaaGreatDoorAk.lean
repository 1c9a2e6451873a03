/-
  WALKS: answers and all moves of a place.
-/
import Derived.Test.YtepdlghobopdbaaGreatDoorAj
namespace Go.Proofs.YtepdlghobopdbaaGreatDoor
open Go.RowKit Go.Shelf
attribute [local go_sem] Oper.semAt_some

set_option maxRecDepth 100000 in
set_option maxHeartbeats 1000000 in
theorem tells_any (p : Ar.Pl) (v : Int) (w : World) :
    Calls Tryz.prog 38 #[plV p, .int .i64 v] w fun e w' => e = .returned (.func (.func 76) #[] #[.pointer (some ⟨w.heap.size, 0, none⟩), .pointer (some ⟨w.heap.size + 1, 0, none⟩)]) ∧ w' = (w.alloc (plO p)).alloc (.cells #[.int .i64 v] 3) := by
  unfold plV plO
  go_enter Tryz.func38, Tryz.ntmps38
  go_wp2
  go_ret
  exact ⟨by simp, rfl⟩

set_option maxRecDepth 100000 in
set_option maxHeartbeats 4000000 in
theorem answers_gives (n : Nat) (hn : 1 ≤ n) (p : Ar.Pl) (h1 : 1 ≤ p.base.n) (h64 : p.base.n ≤ 64) : Gives n 39 #[plV p] #[] encMv (Ar.answersOf p) anyY (fun _ => True) (fun _ => True) := by
  intro y J Jx W hy _ _ hJ hJx hY h0
  refine callsIn_of_wp Tryz.func39 rfl trivial ?_ rfl
  simp only [Tryz.ntmps39, List.size_toArray, List.length_cons, List.length_nil, Nat.reduceAdd, Nat.reduceSub, Array.replicate_succ, Array.replicate_zero, List.push_toArray, List.append_toArray, List.nil_append, List.cons_append]
  obtain ⟨v, hv⟩ : ∃ v : Nat, p.base.n = (v : Int) := ⟨p.base.n.toNat, by omega⟩
  have HT := Lib.hid (fun W => tells_any p p.base.n W)
  have HV := Lib.hid hv
  have hv64 : v ≤ 64 := by omega
  have hE : Ext W.heap.size W (W.alloc (plO p)) := (Ext.refl _ _).alloc (Nat.le_refl _) _
  have hE2 : Ext W.heap.size W (((W.alloc (plO p)).alloc (plO p)).alloc (.cells #[.int .i64 p.base.n] 3)) := (hE.alloc (by simp) _).alloc (by simp) _
  have hp2 : (((W.alloc (plO p)).alloc (plO p)).alloc (.cells #[.int .i64 p.base.n] 3)).heap[W.heap.size + 1]? = some (plO p) := by
    have := World.alloc_heap_new (W.alloc (plO p)) (plO p)
    rw [World.size_alloc] at this
    exact (Below.heap_alloc _ _ _ (by simp)).trans this
  have hv2 : Boxed (((W.alloc (plO p)).alloc (plO p)).alloc (.cells #[.int .i64 p.base.n] 3)) (W.heap.size + 1 + 1) 3 (.int .i64 (v : Int)) := by
    have := World.alloc_heap_new ((W.alloc (plO p)).alloc (plO p)) (.cells #[.int .i64 p.base.n] 3)
    rw [World.size_alloc, World.size_alloc] at this
    rw [← hv]
    exact this
  have hav : Ar.answersOf p = Ar.tellsOf p v := by unfold Ar.answersOf; rw [hv]; rfl
  rw [hav] at hY ⊢
  have HG := Lib.hid ((tells1_gives n hn p v (W.heap.size + 1) (W.heap.size + 1 + 1) hv64).any (m := n - 1) y J Jx _ hy ⟨hp2, hv2⟩ (fun _ _ _ => trivial) (fun pre => (hJ pre).mono hE2.below.size) (hJx.mono hE2.below.size)
    (fun pre x suf W1 hL hs hj => ((hY pre x suf W1 hL (Nat.le_trans hE2.below.size hs) hj).any).mono (roundPost_mono hE2.below.size (fun _ _ h => h) (fun _ _ h => h))) (hJ [] _ _ hE2 h0))
  clear hY hJ hJx h0 hE hE2 hp2 hv2 hav hv
  unfold plV at *
  unfold plO at *
  rcases hy with ⟨l, rfl⟩ | ⟨B, rfl⟩
  all_goals
    gi_wp2_with (refine ⟨trivial, ?_⟩; gi_at_call 38; refine (callsIn_wide.2 (HT.out _)).mono ?_; rintro e w2 ⟨rfl, rfl⟩)
    refine ⟨trivial, ?_⟩
    gi_at_call 76
    refine HG.out.mono ?_
    rintro e w3 ⟨⟨v3, rfl⟩, h3⟩
    gi_wp2
    go_end0
    exact ⟨⟨_, rfl⟩, h3⟩

theorem encMv_size (x : Ar.Mv) : (encMv x).size = 1 := rfl
theorem mvO_cells {W : World} {b : Nat} {m : Ar.Mv} (h : W.heap[b]? = some (mvO m)) :
    W.cell? ⟨b, 0, none⟩ = some (.int .i64 m.id) ∧ W.cell? ⟨b, 1, none⟩ = some (.int .i64 m.arg) ∧ W.cell? ⟨b, 2, none⟩ = some (.int .u8 m.kind) ∧ W.cell? ⟨b, 3, none⟩ = some (.int .i64 m.n) := by
  unfold mvO at h
  exact ⟨by simp [World.cell?, h], by simp [World.cell?, h], by simp [World.cell?, h], by simp [World.cell?, h]⟩
theorem two_new1 (W : World) (o1 o2 : Obj) : ((W.alloc o1).alloc o2).heap[W.heap.size]? = some o1 := (Below.heap_alloc _ _ _ (by simp)).trans (World.alloc_heap_new W o1)
theorem two_new2 (W : World) (o1 o2 : Obj) : ((W.alloc o1).alloc o2).heap[W.heap.size + 1]? = some o2 := by
  have := World.alloc_heap_new (W.alloc o1) o2
  rw [World.size_alloc] at this; exact this
theorem Ext.two (W : World) (o1 o2 : Obj) : Ext W.heap.size W ((W.alloc o1).alloc o2) := ((Ext.refl _ _).alloc (Nat.le_refl _) _).alloc (Nat.le_refl _) _

set_option maxRecDepth 100000 in
set_option maxHeartbeats 4000000 in
theorem moves_gives (n : Nat) (hn : 1 ≤ n) (p : Ar.Pl) (h1 : 1 ≤ p.base.n) (h64 : p.base.n ≤ 64) : Gives n 64 #[plV p] #[] encMv (Ar.movesOf p) anyY (fun _ => True) (fun _ => True) := by
  intro y J Jx W hy _ _ hJ hJx hY h0
  refine callsIn_of_wp_marks Tryz.func64 rfl trivial ?_ rfl
  simp only [Tryz.ntmps64, List.size_toArray, List.length_cons, List.length_nil, Nat.reduceAdd, Nat.reduceSub, Array.replicate_succ, Array.replicate_zero, List.push_toArray, List.append_toArray, List.nil_append, List.cons_append]
  have hy' := hy
  have hpv : plV p = .agg #[.bool p.base.cell, .int .i64 p.base.n, .int .i64 p.id, .int .i64 p.arg, .bool p.jumps] := rfl
  rw [hpv]
  clear hpv
  have HY := Lib.hid hY; clear hY
  have HJ := Lib.hid hJ; clear hJ
  have HJx := Lib.hid hJx; clear hJx
  rcases hy with ⟨l, rfl⟩ | ⟨B, rfl⟩
  · have hp0 := Lib.hid (two_new1 W (plO p) (.cells #[yieldV l] 71))
    have hb0 := Lib.hid (two_new2 W (plO p) (.cells #[yieldV l] 71))
    have hE := Ext.two W (plO p) (.cells #[yieldV l] 71)
    have hsz : W.heap.size + 2 ≤ ((W.alloc (plO p)).alloc (.cells #[yieldV l] 71)).heap.size := by simp
    gi_wp2
    have hpo : (Obj.cells #[.bool p.base.cell, .int .i64 p.base.n, .int .i64 p.id, .int .i64 p.arg, .bool p.jumps] 68 (0, 0)) = plO p := rfl
    rw [hpo]
    generalize (W.alloc (plO p)).alloc (.cells #[yieldV l] 71) = Wl at *
    refine range_own hn (ba := #[plV p]) (lb := #[]) rfl (enters_of Tryz.func43 (by kernel_rfl) rfl) encMv_size ((questions_gives 1 (Nat.le_refl _) p h64).any) (fun l => .inl ⟨l, rfl⟩) (fun _ _ => trivial)
      (fun pre W' => J pre W' ∧ W'.heap[W.heap.size]? = some (plO p) ∧ Boxed W' (W.heap.size + 1) 71 (yieldV l)) Jx (fun _ _ _ => trivial)
      (fun pre => ((HJ.out pre).mono (by omega)).and (Lasts.and (fun A B e h => e.cells _ _ h rfl) (lasts_boxed _ _ _ _))) (HJx.out.mono (by omega)) ⟨HJ.out _ _ _ hE h0, hp0.out, hb0.out⟩
      (fun x a' W' => ∃ bx, W'.heap[bx]? = some (mvO x) ∧ a' = { tmps := #[Value.agg #[.bool p.base.cell, .int .i64 p.base.n, .int .i64 p.id, .int .i64 p.arg, .bool p.jumps], yieldV l, .pointer (some ⟨W.heap.size, 0, none⟩), .pointer (some ⟨W.heap.size + 1, 0, none⟩), .pointer (some ⟨bx, 0, none⟩), Value.agg #[.bool p.base.cell, .int .i64 p.base.n, .int .i64 p.id, .int .i64 p.arg, .bool p.jumps], .func (.func 43) #[Value.agg #[.bool p.base.cell, .int .i64 p.base.n, .int .i64 p.id, .int .i64 p.arg, .bool p.jumps]] #[], .agg #[.int .i64 x.id, .int .i64 x.arg, .int .u8 x.kind, .int .i64 x.n], undef, undef, undef, undef, undef, undef, undef], defers := [] })
      (fun x a' A B e h => by obtain ⟨bx, h1, h2⟩ := h; exact ⟨bx, e.cells _ _ h1 rfl, h2⟩) ?assign ?body ?done ?stop
    case assign =>
      intro pre x suf W1 K hL hI hs hK
      unfold encMv mvV
      gi_wp2
      exact hK _ _ ((Below.refl _ _).alloc (Nat.le_refl _) _) ⟨W1.heap.size, World.alloc_heap_new _ _, rfl⟩
    case body =>
      rintro pre x suf a' W1 hL ⟨hj, hpb, hyb⟩ hs ⟨bx, hbx, rfl⟩
      obtain ⟨fn, tmps, assign, body, hy, hR⟩ := ((HY.out pre x (suf ++ Ar.answersOf p) W1 (by rw [Ar.movesOf, hL, List.append_assoc]; rfl) (by omega) hj).any (m' := n - 1 - 1 - 1)).yield
      unfold encMv mvV at hy
      have HR := Lib.hid hR; clear hR
      obtain ⟨m0, m1, m2, m3⟩ := mvO_cells hbx
      have my := hyb.cell
      have HP := Lib.hid hpb; have HYB := Lib.hid hyb
      clear hpb hyb hj hbx hL
      gi_wp2
      refine ⟨fun h => (by cases h), RoundIn.mono (show RoundIn (Fence.wide.inRound (Wl.heap.size + 1)) _ _ _ _ _ _ _ _ _ from HR.out) ?_⟩
      rintro e W3 (⟨rfl, hJ3, hK3⟩ | ⟨rfl, hJx3, hK3⟩)
      · gi_wp2
        exact ⟨hK3.mono (by omega), hJ3, hK3.same _ _ HP.out ⟨by decide, by decide⟩, hK3.boxed HYB.out (by decide) (by decide)⟩
      · gi_wp2
        exact ⟨hK3.mono (by omega), hJx3⟩
    case done =>
      rintro W2 ⟨hj, hp2, hy2⟩ hD
      have hlt := lt_of_heap hD
      have HA := Lib.hid ((answers_gives 1 (Nat.le_refl _) p h1 h64).any (m := n - 1) (yieldV l) (fun pre W => J (Ar.questionsOf p ++ pre) W ∧ W.heap[Wl.heap.size]? = some (.deferred (some []))) (fun W => Jx W ∧ W.heap[Wl.heap.size]? = some (.deferred (some []))) W2 hy' trivial (fun _ _ _ => trivial)
        (fun pre => ((HJ.out _).mono (by omega)).and (fun A B e h => (e.below.block _ (by omega)).trans h)) ((HJx.out.mono (by omega)).and (fun A B e h => (e.below.block _ (by omega)).trans h))
        (fun pre x suf W1 hL hs hj => ((HY.out (Ar.questionsOf p ++ pre) x suf W1 (by rw [Ar.movesOf, hL, List.append_assoc]) (by omega) hj.1).any).mono (roundPost_mono (by omega) (fun W3 hk h => ⟨by rw [← List.append_assoc]; exact h, hk.same _ _ hj.2 (by show _ ≤ _; omega)⟩) (fun W3 hk h => ⟨h, hk.same _ _ (by omega) hj.2 rfl⟩)))
        ⟨by rw [List.append_nil]; exact hj, hD⟩)
      obtain ⟨d0, d1, d2, d3, d4⟩ := plO_cells hp2
      have my := hy2.cell
      have HJ2 := Lib.hid hj; have HD := Lib.hid hD
      clear hp2 hy2 hj hD
      unfold plV at HA
      gi_wp2
      refine ⟨trivial, ?_⟩
      gi_at_call 39
      refine HA.out.mono ?_
      rintro e W3 ⟨⟨v3, rfl⟩, h3⟩
      have hD3 : W3.heap[Wl.heap.size]? = some (.deferred (some [])) := by rcases h3 with h | h <;> exact h.2
      have H3 := Lib.hid h3; clear h3
      have HD3 := Lib.hid hD3; clear hD3
      gi_wp2
      refine ⟨by simp, .inl ⟨_, _, rfl, run_takeDeferred HD3.out, ?_⟩⟩
      refine ⟨_, results_none rfl _ _ _, ⟨_, rfl⟩, ?_⟩
      have hEx := Ext.put (n₀ := W.heap.size) (.deferred none) (by omega) HD3.out rfl
      rcases H3.out with h | h
      · exact .inl (HJ.out _ _ _ hEx h.1)
      · exact .inr (HJx.out _ _ hEx h.1)
    case stop =>
      rintro W2 hx hD
      have HD := Lib.hid hD; clear hD
      gi_wp2
      refine ⟨by simp, .inl ⟨_, _, rfl, run_takeDeferred HD.out, ?_⟩⟩
      exact ⟨_, results_none rfl _ _ _, ⟨_, rfl⟩, .inr (HJx.out _ _ (Ext.put _ (by omega) HD.out rfl) hx)⟩
  · have hp0 := Lib.hid (two_new1 W (plO p) (.cells #[growV B] 71))
    have hb0 := Lib.hid (two_new2 W (plO p) (.cells #[growV B] 71))
    have hE := Ext.two W (plO p) (.cells #[growV B] 71)
    have hsz : W.heap.size + 2 ≤ ((W.alloc (plO p)).alloc (.cells #[growV B] 71)).heap.size := by simp
    gi_wp2
    have hpo : (Obj.cells #[.bool p.base.cell, .int .i64 p.base.n, .int .i64 p.id, .int .i64 p.arg, .bool p.jumps] 68 (0, 0)) = plO p := rfl
    rw [hpo]
    generalize (W.alloc (plO p)).alloc (.cells #[growV B] 71) = Wl at *
    refine range_own hn (ba := #[plV p]) (lb := #[]) rfl (enters_of Tryz.func43 (by kernel_rfl) rfl) encMv_size ((questions_gives 1 (Nat.le_refl _) p h64).any) (fun l => .inl ⟨l, rfl⟩) (fun _ _ => trivial)
      (fun pre W' => J pre W' ∧ W'.heap[W.heap.size]? = some (plO p) ∧ Boxed W' (W.heap.size + 1) 71 (growV B)) Jx (fun _ _ _ => trivial)
      (fun pre => ((HJ.out pre).mono (by omega)).and (Lasts.and (fun A B e h => e.cells _ _ h rfl) (lasts_boxed _ _ _ _))) (HJx.out.mono (by omega)) ⟨HJ.out _ _ _ hE h0, hp0.out, hb0.out⟩
      (fun x a' W' => ∃ bx, W'.heap[bx]? = some (mvO x) ∧ a' = { tmps := #[Value.agg #[.bool p.base.cell, .int .i64 p.base.n, .int .i64 p.id, .int .i64 p.arg, .bool p.jumps], growV B, .pointer (some ⟨W.heap.size, 0, none⟩), .pointer (some ⟨W.heap.size + 1, 0, none⟩), .pointer (some ⟨bx, 0, none⟩), Value.agg #[.bool p.base.cell, .int .i64 p.base.n, .int .i64 p.id, .int .i64 p.arg, .bool p.jumps], .func (.func 43) #[Value.agg #[.bool p.base.cell, .int .i64 p.base.n, .int .i64 p.id, .int .i64 p.arg, .bool p.jumps]] #[], .agg #[.int .i64 x.id, .int .i64 x.arg, .int .u8 x.kind, .int .i64 x.n], undef, undef, undef, undef, undef, undef, undef], defers := [] })
      (fun x a' A B e h => by obtain ⟨bx, h1, h2⟩ := h; exact ⟨bx, e.cells _ _ h1 rfl, h2⟩) ?assign ?body ?done ?stop
    case assign =>
      intro pre x suf W1 K hL hI hs hK
      unfold encMv mvV
      gi_wp2
      exact hK _ _ ((Below.refl _ _).alloc (Nat.le_refl _) _) ⟨W1.heap.size, World.alloc_heap_new _ _, rfl⟩
    case body =>
      rintro pre x suf a' W1 hL ⟨hj, hpb, hyb⟩ hs ⟨bx, hbx, rfl⟩
      have hR := ((HY.out pre x (suf ++ Ar.answersOf p) W1 (by rw [Ar.movesOf, hL, List.append_assoc]; rfl) (by omega) hj).any (m' := n - 1 - 1 - 1)).grow
      unfold encMv mvV at hR
      have HR := Lib.hid hR; clear hR
      obtain ⟨m0, m1, m2, m3⟩ := mvO_cells hbx
      have my := hyb.cell
      have HP := Lib.hid hpb; have HYB := Lib.hid hyb
      clear hpb hyb hj hbx hL
      gi_wp2
      refine ⟨trivial, fun h => (by cases h), ?_⟩
      refine (CallsIn.inRound _ HR.out).mono ?_
      rintro e W3 (⟨rfl, hJ3, hK3⟩ | ⟨rfl, hJx3, hK3⟩)
      · gi_wp2
        exact ⟨hK3.mono (by omega), hJ3, hK3.same _ _ HP.out ⟨by decide, by decide⟩, hK3.boxed HYB.out (by decide) (by decide)⟩
      · gi_wp2
        exact ⟨hK3.mono (by omega), hJx3⟩
    case done =>
      rintro W2 ⟨hj, hp2, hy2⟩ hD
      have hlt := lt_of_heap hD
      have HA := Lib.hid ((answers_gives 1 (Nat.le_refl _) p h1 h64).any (m := n - 1) (growV B) (fun pre W => J (Ar.questionsOf p ++ pre) W ∧ W.heap[Wl.heap.size]? = some (.deferred (some []))) (fun W => Jx W ∧ W.heap[Wl.heap.size]? = some (.deferred (some []))) W2 hy' trivial (fun _ _ _ => trivial)
        (fun pre => ((HJ.out _).mono (by omega)).and (fun A B e h => (e.below.block _ (by omega)).trans h)) ((HJx.out.mono (by omega)).and (fun A B e h => (e.below.block _ (by omega)).trans h))
        (fun pre x suf W1 hL hs hj => ((HY.out (Ar.questionsOf p ++ pre) x suf W1 (by rw [Ar.movesOf, hL, List.append_assoc]) (by omega) hj.1).any).mono (roundPost_mono (by omega) (fun W3 hk h => ⟨by rw [← List.append_assoc]; exact h, hk.same _ _ hj.2 (by show _ ≤ _; omega)⟩) (fun W3 hk h => ⟨h, hk.same _ _ (by omega) hj.2 rfl⟩)))
        ⟨by rw [List.append_nil]; exact hj, hD⟩)
      obtain ⟨d0, d1, d2, d3, d4⟩ := plO_cells hp2
      have my := hy2.cell
      have HJ2 := Lib.hid hj; have HD := Lib.hid hD
      clear hp2 hy2 hj hD
      unfold plV at HA
      gi_wp2
      refine ⟨trivial, ?_⟩
      gi_at_call 39
      refine HA.out.mono ?_
      rintro e W3 ⟨⟨v3, rfl⟩, h3⟩
      have hD3 : W3.heap[Wl.heap.size]? = some (.deferred (some [])) := by rcases h3 with h | h <;> exact h.2
      have H3 := Lib.hid h3; clear h3
      have HD3 := Lib.hid hD3; clear hD3
      gi_wp2
      refine ⟨by simp, .inl ⟨_, _, rfl, run_takeDeferred HD3.out, ?_⟩⟩
      refine ⟨_, results_none rfl _ _ _, ⟨_, rfl⟩, ?_⟩
      have hEx := Ext.put (n₀ := W.heap.size) (.deferred none) (by omega) HD3.out rfl
      rcases H3.out with h | h
      · exact .inl (HJ.out _ _ _ hEx h.1)
      · exact .inr (HJx.out _ _ hEx h.1)
    case stop =>
      rintro W2 hx hD
      have HD := Lib.hid hD; clear hD
      gi_wp2
      refine ⟨by simp, .inl ⟨_, _, rfl, run_takeDeferred HD.out, ?_⟩⟩
      exact ⟨_, results_none rfl _ _ _, ⟨_, rfl⟩, .inr (HJx.out _ _ (Ext.put _ (by omega) HD.out rfl) hx)⟩
end Go.Proofs.YtepdlghobopdbaaGreatDoor
