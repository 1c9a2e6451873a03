/-
  WALKS: what is yielded of some places, in one list.
-/
import Derived.Test.YtepdlghobopdbaaGreatDoorAm
namespace Go.Proofs.YtepdlghobopdbaaGreatDoor
open Go.RowKit Go.Shelf
attribute [local go_sem] Oper.semAt_some

set_option maxRecDepth 100000 in
set_option maxHeartbeats 4000000 in
theorem list_moves (gf : Nat) (ba lb : Array Value) (L : List Ar.Pl) (g : Ar.Pl → List Ar.Mv) {Pre Inv : World → Prop} (w : World) (eg : ∀ args w, (callFunc gf args).run Tryz.prog w = .ok (.enter gf args) w)
    (hseq : Gives 1 gf ba lb encPl L loopY Pre Inv) (hpre : ∀ W1, Ext w.heap.size w W1 → Pre W1) (hinv : ∀ W1, Below w.heap.size w W1 → Inv W1)
    (hg : ∀ p ∈ L, Gives 1 64 #[plV p] #[] encMv (g p) anyY (fun _ => True) (fun _ => True)) (hlen : (L.flatMap g).length ≤ 1000000) :
    Calls Tryz.prog 41 #[.func (.func gf) ba lb, .func (.func 64) #[] #[]] w fun e w' => ∃ v, e = .returned v ∧ w'.ownsRow w.heap.size 37 4 v (L.flatMap g).length (mvsCells (L.flatMap g)) ∧ Below w.heap.size w w' := by
  obtain ⟨M, hM⟩ : ∃ M, L.flatMap g = M := ⟨_, rfl⟩
  rw [hM]
  have HM := Lib.hid hM; clear hM
  refine (callsIn_wide (n := 9)).1 (callsIn_of_wp_marks Tryz.func41 rfl trivial ?_ rfl)
  simp only [Tryz.ntmps41, List.size_toArray, List.length_cons, List.length_nil, Nat.reduceAdd, Nat.reduceSub, Array.replicate_succ, Array.replicate_zero, List.push_toArray, List.append_toArray, List.nil_append, List.cons_append]
  have HG := Lib.hid hg; clear hg
  have HN := Lib.hid hlen; clear hlen
  have HI := Lib.hid hinv; clear hinv
  have HS := Lib.hid hseq; clear hseq
  have HE := Lib.hid eg; clear eg
  have hE := Ext.two w (.cells #[.func (.func 64) #[] #[]] 81) (.cells #[.slice none 0 0] 38)
  have hPR := Lib.hid (fun W1 (h : Ext w.heap.size ((w.alloc (.cells #[.func (.func 64) #[] #[]] 81)).alloc (.cells #[.slice none 0 0] 38)) W1) => hpre W1 (hE.trans h))
  have hb1 := Lib.hid (two_new1 w (.cells #[.func (.func 64) #[] #[]] 81) (.cells #[.slice none 0 0] 38))
  have hb2 := Lib.hid (two_new2 w (.cells #[.func (.func 64) #[] #[]] 81) (.cells #[.slice none 0 0] 38))
  have hsz : w.heap.size + 2 ≤ ((w.alloc (.cells #[.func (.func 64) #[] #[]] 81)).alloc (.cells #[.slice none 0 0] 38)).heap.size := by simp
  have hBl := hE.below
  clear hpre hE
  gi_wp2
  generalize (w.alloc (.cells #[.func (.func 64) #[] #[]] 81)).alloc (.cells #[.slice none 0 0] 38) = Wl at *
  refine range_own (n := 9) (by omega) (ba := ba) (lb := lb) rfl HE.out encPl_size (HS.out.any) (fun l => ⟨l, rfl⟩) (fun W1 h => hPR.out W1 (h.mono (by omega)))
    (fun pre W' => Row w.heap.size (w.heap.size + 1) (pre.flatMap g) W' ∧ Boxed W' w.heap.size 81 (.func (.func 64) #[] #[]) ∧ Below w.heap.size w W') (fun _ => False) (fun _ W' h => HI.out W' h.2.2)
    (fun pre => (lasts_row _ _ _ _).and ((lasts_boxed _ _ _ _).and (lasts_below _ (by omega)))) (lasts_pure _ _) ⟨⟨_, hb2.out, World.ownsRow_nil _ _ _ _⟩, hb1.out, hBl⟩
    (fun x a' W' => ∃ bx, W'.heap[bx]? = some (plO x) ∧ a' = { tmps := #[.func (.func gf) ba lb, .func (.func 64) #[] #[], undef, .pointer (some ⟨w.heap.size, 0, none⟩), .slice none 0 0, .pointer (some ⟨w.heap.size + 1, 0, none⟩), .pointer (some ⟨bx, 0, none⟩), .func (.func gf) ba lb, .agg #[.bool x.base.cell, .int .i64 x.base.n, .int .i64 x.id, .int .i64 x.arg, .bool x.jumps], undef, undef, undef, undef, undef], defers := [] })
    (fun x a' A B e h => by obtain ⟨bx, h1, h2⟩ := h; exact ⟨bx, e.cells _ _ h1 rfl, h2⟩) ?assign ?body ?done ?stop
  case assign =>
    intro pre x suf W1 K hL hI hs hK
    unfold encPl plV
    gi_wp2
    exact hK _ _ ((Below.refl _ _).alloc (Nat.le_refl _) _) ⟨W1.heap.size, World.alloc_heap_new _ _, rfl⟩
  case body =>
    rintro pre x suf a' W1 hL ⟨hrow, hb, hB⟩ hs ⟨bx, hbx, rfl⟩
    have hfl : (L.flatMap g).length = (pre.flatMap g).length + ((g x).length + (suf.flatMap g).length) := by rw [hL]; simp
    have hG := Lib.hid (((HG.out x (by rw [hL]; simp)).any (m := 9 - 1 - 1 - 1)) (growV (w.heap.size + 1)) (fun q W' => Row w.heap.size (w.heap.size + 1) (pre.flatMap g ++ q) W' ∧ Boxed W' w.heap.size 81 (.func (.func 64) #[] #[]) ∧ Below w.heap.size w W' ∧ Keep Wl.heap.size W1 W') (fun _ => False) W1 (.inr ⟨_, rfl⟩) trivial (fun _ _ _ => trivial)
      (fun q => (lasts_row _ _ _ _).and ((lasts_boxed _ _ _ _).and ((lasts_below _ (by omega)).and (lasts_keep _ (Nat.le_refl _))))) (lasts_pure _ _)
      (fun q z suf2 W2 hL2 hs2 hj => by
        have hlen2 := HN.out
        have hgx : (g x).length = q.length + (suf2.length + 1) := by rw [hL2]; simp
        refine .inr ⟨_, rfl, callsIn_wide.2 ((grow_any w.heap.size (w.heap.size + 1) (pre.flatMap g ++ q) z W2 hj.1 (by omega) (by omega) (by rw [List.length_append]; omega)).mono ?_)⟩
        rintro e W3 ⟨rfl, h1, h2, h3⟩
        exact .inl ⟨rfl, ⟨by rw [← List.append_assoc]; exact h1, h3.boxed hj.2.1 (by decide) (by decide), hj.2.2.1.trans h2, hj.2.2.2.trans (h3.mono (Nat.zero_le _))⟩, h3.mono (Nat.zero_le _)⟩)
      ⟨by rw [List.append_nil]; exact hrow, hb, hB, Keep.refl _ _⟩)
    obtain ⟨c0, c1, c2, c3, c4⟩ := plO_cells hbx
    have cy := hb.cell
    clear hrow hb hB hbx hL hfl
    unfold plV at hG
    gi_wp2
    refine ⟨trivial, ?_⟩
    refine (CallsIn.inRound _ hG.out).mono ?_
    rintro e W3 ⟨⟨v3, rfl⟩, (⟨h1, h2, h3, h4⟩ | h)⟩
    · have H1 := Lib.hid h1; have H2 := Lib.hid h2
      clear h1 h2
      gi_wp2
      exact ⟨h4, by rw [List.flatMap_append, List.flatMap_singleton]; exact H1.out, H2.out, h3⟩
    · exact h.elim
  case done =>
    rintro W2 ⟨⟨v, hv, hrow⟩, hb, hB⟩ hD
    rw [HM.out] at hrow
    obtain ⟨ao, cap, rfl⟩ := own_form hrow
    have cv := hv.cell
    have HD := Lib.hid hD; have HR := Lib.hid hrow
    clear hD hrow hb
    gi_wp2
    refine ⟨by simp, .inl ⟨_, _, rfl, run_takeDeferred HD.out, ?_⟩⟩
    have hEx := Ext.put (n₀ := w.heap.size) (.deferred none) (by omega) HD.out rfl
    exact ⟨_, results_tmp rfl _ _ _, _, rfl, own_ext HR.out hEx, hB.trans hEx.below⟩
  case stop => exact fun _ h _ => h.elim

set_option maxRecDepth 100000 in
set_option maxHeartbeats 4000000 in
theorem list_questions (gf : Nat) (ba lb : Array Value) (L : List Ar.Pl) (g : Ar.Pl → List Ar.Mv) {Pre Inv : World → Prop} (w : World) (eg : ∀ args w, (callFunc gf args).run Tryz.prog w = .ok (.enter gf args) w)
    (hseq : Gives 1 gf ba lb encPl L loopY Pre Inv) (hpre : ∀ W1, Ext w.heap.size w W1 → Pre W1) (hinv : ∀ W1, Below w.heap.size w W1 → Inv W1)
    (hg : ∀ p ∈ L, Gives 1 43 #[plV p] #[] encMv (g p) anyY (fun _ => True) (fun _ => True)) (hlen : (L.flatMap g).length ≤ 1000000) :
    Calls Tryz.prog 41 #[.func (.func gf) ba lb, .func (.func 43) #[] #[]] w fun e w' => ∃ v, e = .returned v ∧ w'.ownsRow w.heap.size 37 4 v (L.flatMap g).length (mvsCells (L.flatMap g)) ∧ Below w.heap.size w w' := by
  obtain ⟨M, hM⟩ : ∃ M, L.flatMap g = M := ⟨_, rfl⟩
  rw [hM]
  have HM := Lib.hid hM; clear hM
  refine (callsIn_wide (n := 9)).1 (callsIn_of_wp_marks Tryz.func41 rfl trivial ?_ rfl)
  simp only [Tryz.ntmps41, List.size_toArray, List.length_cons, List.length_nil, Nat.reduceAdd, Nat.reduceSub, Array.replicate_succ, Array.replicate_zero, List.push_toArray, List.append_toArray, List.nil_append, List.cons_append]
  have HG := Lib.hid hg; clear hg
  have HN := Lib.hid hlen; clear hlen
  have HI := Lib.hid hinv; clear hinv
  have HS := Lib.hid hseq; clear hseq
  have HE := Lib.hid eg; clear eg
  have hE := Ext.two w (.cells #[.func (.func 43) #[] #[]] 81) (.cells #[.slice none 0 0] 38)
  have hPR := Lib.hid (fun W1 (h : Ext w.heap.size ((w.alloc (.cells #[.func (.func 43) #[] #[]] 81)).alloc (.cells #[.slice none 0 0] 38)) W1) => hpre W1 (hE.trans h))
  have hb1 := Lib.hid (two_new1 w (.cells #[.func (.func 43) #[] #[]] 81) (.cells #[.slice none 0 0] 38))
  have hb2 := Lib.hid (two_new2 w (.cells #[.func (.func 43) #[] #[]] 81) (.cells #[.slice none 0 0] 38))
  have hsz : w.heap.size + 2 ≤ ((w.alloc (.cells #[.func (.func 43) #[] #[]] 81)).alloc (.cells #[.slice none 0 0] 38)).heap.size := by simp
  have hBl := hE.below
  clear hpre hE
  gi_wp2
  generalize (w.alloc (.cells #[.func (.func 43) #[] #[]] 81)).alloc (.cells #[.slice none 0 0] 38) = Wl at *
  refine range_own (n := 9) (by omega) (ba := ba) (lb := lb) rfl HE.out encPl_size (HS.out.any) (fun l => ⟨l, rfl⟩) (fun W1 h => hPR.out W1 (h.mono (by omega)))
    (fun pre W' => Row w.heap.size (w.heap.size + 1) (pre.flatMap g) W' ∧ Boxed W' w.heap.size 81 (.func (.func 43) #[] #[]) ∧ Below w.heap.size w W') (fun _ => False) (fun _ W' h => HI.out W' h.2.2)
    (fun pre => (lasts_row _ _ _ _).and ((lasts_boxed _ _ _ _).and (lasts_below _ (by omega)))) (lasts_pure _ _) ⟨⟨_, hb2.out, World.ownsRow_nil _ _ _ _⟩, hb1.out, hBl⟩
    (fun x a' W' => ∃ bx, W'.heap[bx]? = some (plO x) ∧ a' = { tmps := #[.func (.func gf) ba lb, .func (.func 43) #[] #[], undef, .pointer (some ⟨w.heap.size, 0, none⟩), .slice none 0 0, .pointer (some ⟨w.heap.size + 1, 0, none⟩), .pointer (some ⟨bx, 0, none⟩), .func (.func gf) ba lb, .agg #[.bool x.base.cell, .int .i64 x.base.n, .int .i64 x.id, .int .i64 x.arg, .bool x.jumps], undef, undef, undef, undef, undef], defers := [] })
    (fun x a' A B e h => by obtain ⟨bx, h1, h2⟩ := h; exact ⟨bx, e.cells _ _ h1 rfl, h2⟩) ?assign ?body ?done ?stop
  case assign =>
    intro pre x suf W1 K hL hI hs hK
    unfold encPl plV
    gi_wp2
    exact hK _ _ ((Below.refl _ _).alloc (Nat.le_refl _) _) ⟨W1.heap.size, World.alloc_heap_new _ _, rfl⟩
  case body =>
    rintro pre x suf a' W1 hL ⟨hrow, hb, hB⟩ hs ⟨bx, hbx, rfl⟩
    have hfl : (L.flatMap g).length = (pre.flatMap g).length + ((g x).length + (suf.flatMap g).length) := by rw [hL]; simp
    have hG := Lib.hid (((HG.out x (by rw [hL]; simp)).any (m := 9 - 1 - 1 - 1)) (growV (w.heap.size + 1)) (fun q W' => Row w.heap.size (w.heap.size + 1) (pre.flatMap g ++ q) W' ∧ Boxed W' w.heap.size 81 (.func (.func 43) #[] #[]) ∧ Below w.heap.size w W' ∧ Keep Wl.heap.size W1 W') (fun _ => False) W1 (.inr ⟨_, rfl⟩) trivial (fun _ _ _ => trivial)
      (fun q => (lasts_row _ _ _ _).and ((lasts_boxed _ _ _ _).and ((lasts_below _ (by omega)).and (lasts_keep _ (Nat.le_refl _))))) (lasts_pure _ _)
      (fun q z suf2 W2 hL2 hs2 hj => by
        have hlen2 := HN.out
        have hgx : (g x).length = q.length + (suf2.length + 1) := by rw [hL2]; simp
        refine .inr ⟨_, rfl, callsIn_wide.2 ((grow_any w.heap.size (w.heap.size + 1) (pre.flatMap g ++ q) z W2 hj.1 (by omega) (by omega) (by rw [List.length_append]; omega)).mono ?_)⟩
        rintro e W3 ⟨rfl, h1, h2, h3⟩
        exact .inl ⟨rfl, ⟨by rw [← List.append_assoc]; exact h1, h3.boxed hj.2.1 (by decide) (by decide), hj.2.2.1.trans h2, hj.2.2.2.trans (h3.mono (Nat.zero_le _))⟩, h3.mono (Nat.zero_le _)⟩)
      ⟨by rw [List.append_nil]; exact hrow, hb, hB, Keep.refl _ _⟩)
    obtain ⟨c0, c1, c2, c3, c4⟩ := plO_cells hbx
    have cy := hb.cell
    clear hrow hb hB hbx hL hfl
    unfold plV at hG
    gi_wp2
    refine ⟨trivial, ?_⟩
    refine (CallsIn.inRound _ hG.out).mono ?_
    rintro e W3 ⟨⟨v3, rfl⟩, (⟨h1, h2, h3, h4⟩ | h)⟩
    · have H1 := Lib.hid h1; have H2 := Lib.hid h2
      clear h1 h2
      gi_wp2
      exact ⟨h4, by rw [List.flatMap_append, List.flatMap_singleton]; exact H1.out, H2.out, h3⟩
    · exact h.elim
  case done =>
    rintro W2 ⟨⟨v, hv, hrow⟩, hb, hB⟩ hD
    rw [HM.out] at hrow
    obtain ⟨ao, cap, rfl⟩ := own_form hrow
    have cv := hv.cell
    have HD := Lib.hid hD; have HR := Lib.hid hrow
    clear hD hrow hb
    gi_wp2
    refine ⟨by simp, .inl ⟨_, _, rfl, run_takeDeferred HD.out, ?_⟩⟩
    have hEx := Ext.put (n₀ := w.heap.size) (.deferred none) (by omega) HD.out rfl
    exact ⟨_, results_tmp rfl _ _ _, _, rfl, own_ext HR.out hEx, hB.trans hEx.below⟩
  case stop => exact fun _ h _ => h.elim
end Go.Proofs.YtepdlghobopdbaaGreatDoor
