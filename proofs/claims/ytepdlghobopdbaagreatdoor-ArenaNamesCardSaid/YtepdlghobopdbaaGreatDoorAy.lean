/-
  WALKS: the questions that a question allows.
-/
import Derived.Test.YtepdlghobopdbaaGreatDoorAx
namespace Go.Proofs.YtepdlghobopdbaaGreatDoor
open Go.RowKit Go.Shelf

set_option maxRecDepth 100000 in
set_option maxHeartbeats 1000000 in
theorem where_ids (a : Ar.Are) (A : Option Addr) (c : Nat) (w : World) :
    Calls Tryz.prog 42 #[.agg #[.slice A a.ids.length c, .bool a.root.cell, .int .i64 a.root.n, .bool a.jumps], .func (.func 34) #[] #[]] w fun e w' => e = .returned (.func (.func 79) #[] #[.pointer (some ⟨w.heap.size, 0, none⟩), .pointer (some ⟨w.heap.size + 1, 0, none⟩)]) ∧ w' = (w.alloc (rtO A c a)).alloc (.cells #[.func (.func 34) #[] #[]] 76) := by
  unfold rtO
  go_enter Tryz.func42, Tryz.ntmps42
  go_wp2
  go_ret
  exact ⟨by simp, rfl⟩
/-- The questions of such places, in one list. -/
theorem listw_ids (a : Ar.Are) (A : Option Addr) (c : Nat) (P : Nat → Option Addr × Nat) (W : World) (hr : Ar.Right a) (hl1 : a.ids.length ≤ 1000) (hl2 : ∀ t ∈ a.ids, t.params.length ≤ 1000) (hT : Tys W W.heap.size A P a.ids) :
    Calls Tryz.prog 41 #[.func (.func 79) #[] #[.pointer (some ⟨W.heap.size, 0, none⟩), .pointer (some ⟨W.heap.size + 1, 0, none⟩)], .func (.func 43) #[] #[]] ((W.alloc (rtO A c a)).alloc (.cells #[.func (.func 34) #[] #[]] 76)) fun e w' => ∃ v, e = .returned v ∧
      w'.ownsRow W.heap.size 37 4 v (((Ar.placesOf a).filter Ar.isId).flatMap Ar.questionsOf).length (mvsCells (((Ar.placesOf a).filter Ar.isId).flatMap Ar.questionsOf)) ∧ Below W.heap.size W w' := by
  have hB := below_two (w := W) (rtO A c a) (.cells #[.func (.func 34) #[] #[]] 76)
  have h1 := two_new1 W (rtO A c a) (.cells #[.func (.func 34) #[] #[]] 76)
  have h2 := two_new2 W (rtO A c a) (.cells #[.func (.func 34) #[] #[]] 76)
  have hlen : (((Ar.placesOf a).filter Ar.isId).flatMap Ar.questionsOf).length ≤ 1000000 := by
    have h3 := Ar.flat_length Ar.questionsOf 130 ((Ar.placesOf a).filter Ar.isId) (fun p hp => by
      have h5 := Ar.moves_length (Ar.place_right hr p (List.mem_filter.1 hp).1).2
      unfold Ar.movesOf at h5
      rw [List.length_append] at h5; omega)
    have h4 := List.length_filter_le Ar.isId (Ar.placesOf a)
    have h6 := Ar.places_length hr
    omega
  refine (list_questions _ #[] _ ((Ar.placesOf a).filter Ar.isId) Ar.questionsOf _ (fun args w => enters_of Tryz.func79 (by kernel_rfl) rfl args w) (where1_ids 1 (Nat.le_refl _) a A c W.heap.size P (W.heap.size) (W.heap.size + 1) hl1 hl2) (fun W1 h => ⟨h.cells _ _ h1 rfl, Ext.boxed h2 h⟩) (fun W1 h => (hT.below hB).below (h.mono hB.size))
    (fun p hp => questions_gives 1 (Nat.le_refl _) p (Ar.place_right hr p (List.mem_filter.1 hp).1).2) hlen).mono ?_
  rintro e w' ⟨v, rfl, ho, hb⟩
  exact ⟨v, rfl, own_base ho hB.size, hB.trans (hb.mono hB.size)⟩

set_option maxRecDepth 100000 in
set_option maxHeartbeats 1000000 in
theorem where_inner (a : Ar.Are) (A : Option Addr) (c : Nat) (bp : Nat) (w : World) :
    Calls Tryz.prog 42 #[.agg #[.slice A a.ids.length c, .bool a.root.cell, .int .i64 a.root.n, .bool a.jumps], .func (.func 40) #[] #[.pointer (some ⟨bp, 0, none⟩)]] w fun e w' => e = .returned (.func (.func 79) #[] #[.pointer (some ⟨w.heap.size, 0, none⟩), .pointer (some ⟨w.heap.size + 1, 0, none⟩)]) ∧ w' = (w.alloc (rtO A c a)).alloc (.cells #[.func (.func 40) #[] #[.pointer (some ⟨bp, 0, none⟩)]] 76) := by
  unfold rtO
  go_enter Tryz.func42, Tryz.ntmps42
  go_wp2
  go_ret
  exact ⟨by simp, rfl⟩
/-- The questions of such places, in one list. -/
theorem listw_inner (a : Ar.Are) (A : Option Addr) (c : Nat) (P : Nat → Option Addr × Nat) (bp : Nat) (p : Ar.Pl) (W : World) (hr : Ar.Right a) (hl1 : a.ids.length ≤ 1000) (hl2 : ∀ t ∈ a.ids, t.params.length ≤ 1000) (hT : Tys W W.heap.size A P a.ids) (hp : W.heap[bp]? = some (plO p)) :
    Calls Tryz.prog 41 #[.func (.func 79) #[] #[.pointer (some ⟨W.heap.size, 0, none⟩), .pointer (some ⟨W.heap.size + 1, 0, none⟩)], .func (.func 43) #[] #[]] ((W.alloc (rtO A c a)).alloc (.cells #[.func (.func 40) #[] #[.pointer (some ⟨bp, 0, none⟩)]] 76)) fun e w' => ∃ v, e = .returned v ∧
      w'.ownsRow W.heap.size 37 4 v (((Ar.placesOf a).filter (Ar.underIs p)).flatMap Ar.questionsOf).length (mvsCells (((Ar.placesOf a).filter (Ar.underIs p)).flatMap Ar.questionsOf)) ∧ Below W.heap.size W w' := by
  have hB := below_two (w := W) (rtO A c a) (.cells #[.func (.func 40) #[] #[.pointer (some ⟨bp, 0, none⟩)]] 76)
  have h1 := two_new1 W (rtO A c a) (.cells #[.func (.func 40) #[] #[.pointer (some ⟨bp, 0, none⟩)]] 76)
  have h2 := two_new2 W (rtO A c a) (.cells #[.func (.func 40) #[] #[.pointer (some ⟨bp, 0, none⟩)]] 76)
  have hlen : (((Ar.placesOf a).filter (Ar.underIs p)).flatMap Ar.questionsOf).length ≤ 1000000 := by
    have h3 := Ar.flat_length Ar.questionsOf 130 ((Ar.placesOf a).filter (Ar.underIs p)) (fun p hp => by
      have h5 := Ar.moves_length (Ar.place_right hr p (List.mem_filter.1 hp).1).2
      unfold Ar.movesOf at h5
      rw [List.length_append] at h5; omega)
    have h4 := List.length_filter_le (Ar.underIs p) (Ar.placesOf a)
    have h6 := Ar.places_length hr
    omega
  refine (list_questions _ #[] _ ((Ar.placesOf a).filter (Ar.underIs p)) Ar.questionsOf _ (fun args w => enters_of Tryz.func79 (by kernel_rfl) rfl args w) (where1_inner 1 (Nat.le_refl _) a A c W.heap.size P (W.heap.size) (W.heap.size + 1) bp p hl1 hl2) (fun W1 h => ⟨h.cells _ _ h1 rfl, Ext.boxed h2 h, h.cells _ _ ((hB.block _ (lt_of_heap hp)).trans hp) rfl⟩) (fun W1 h => (hT.below hB).below (h.mono hB.size))
    (fun p hp => questions_gives 1 (Nat.le_refl _) p (Ar.place_right hr p (List.mem_filter.1 hp).1).2) hlen).mono ?_
  rintro e w' ⟨v, rfl, ho, hb⟩
  exact ⟨v, rfl, own_base ho hB.size, hB.trans (hb.mono hB.size)⟩

set_option maxRecDepth 100000 in
set_option maxHeartbeats 4000000 in
theorem under_any (a : Ar.Are) (A : Option Addr) (c : Nat) (P : Nat → Option Addr × Nat) (m : Ar.Mv) (w : World) (hA : ArM w A P a) :
    Calls Tryz.prog 15 #[arV A c a, mvV m] w fun e w' => ∃ v, e = .returned (.tuple #[v, .int .i64 (Ar.fqErr a m : Int)]) ∧ w'.ownsRow w.heap.size 37 4 v (Ar.underRes a m).length (mvsCells (Ar.underRes a m)) ∧ Below w.heap.size w w' := by
  have hB0 := below_two (w := w) (.cells #[.slice A a.ids.length c, .bool a.root.cell, .int .i64 a.root.n, .bool a.jumps] 27 (0, 0)) (mvO m)
  have HF := Lib.hid (findQuestion_any a A c P m _ (hA.below hB0))
  have hav : arV A c a = .agg #[.slice A a.ids.length c, .bool a.root.cell, .int .i64 a.root.n, .bool a.jumps] := rfl
  have hmv : mvV m = .agg #[.int .i64 m.id, .int .i64 m.arg, .int .u8 m.kind, .int .i64 m.n] := rfl
  unfold mvO at hB0 HF
  by_cases h0 : Ar.fqErr a m = 0
  · have hnq : Ar.noQ a m = false := by
      cases h : Ar.noQ a m
      · rfl
      · unfold Ar.fqErr at h0; rw [if_pos h] at h0; cases h0
    have hfe : Ar.findErr a m = 0 := by unfold Ar.fqErr at h0; rw [hnq] at h0; exact h0
    obtain ⟨p, hp, hmem, hck, -⟩ := Ar.findPl_some hfe
    have hr := Ar.right_of_check hck
    obtain ⟨hl1, hl2⟩ := arM_of_right hr
    have h1 : fqRt a A c m = .agg #[.slice A a.ids.length c, .bool a.root.cell, .int .i64 a.root.n, .bool a.jumps] := by unfold fqRt findRt; rw [hnq, hfe]; rfl
    have h2 : fqPl a m = .agg #[.bool p.base.cell, .int .i64 p.base.n, .int .i64 p.id, .int .i64 p.arg, .bool p.jumps] := by unfold fqPl; rw [hnq, hp]; rfl
    have hu : Ar.underRes a m = (Ar.underOf a p).flatMap Ar.questionsOf := by unfold Ar.underRes; rw [if_pos h0, hp]
    rw [h1, h2, h0] at HF
    rw [h0, hu]
    have HI := Lib.hid (fun W => isIdentifier_any p W)
    have HT := Lib.hid (fun W (hB : Below w.heap.size w W) => (hA.below hB).tys)
    have HR := Lib.hid hr; have HL2 := Lib.hid hl2
    rw [hav, hmv] at HF ⊢
    clear hA h0 hnq hfe hp hck hr hl2 h1 h2 hu hmem hav hmv
    unfold plV at HI
    cases hi : Ar.isId p
    · have hof : Ar.underOf a p = (Ar.placesOf a).filter Ar.isId := by unfold Ar.underOf; rw [hi]; rfl
      rw [hi] at HI; rw [hof]
      clear hof hi
      go_enter Tryz.func15, Tryz.ntmps15
      go_wp2_with (first
        | (go_at_call 41; refine (listw_ids a A c P w6 HR.out hl1 HL2.out (HT.out w6 hBw6)).mono ?_; rintro e w7 ⟨v, rfl, ho, hB7⟩; have HO := Lib.hid ho; clear ho)
        | (go_at_call 42; refine (where_ids a A c w6).mono ?_; rintro e w' ⟨rfl, rfl⟩)
        | (go_at_call 34; refine (HI.out _).mono ?_; rintro e w6 ⟨rfl, hB6⟩; have hBw6 := hBw4.trans (hB6.mono hBw4.size); obtain ⟨q0, q1, q2, q3, -⟩ := cells4 ((hB6.block _ (lt_of_heap j7.out)).trans j7.out))
        | (go_at_call 36; refine HF.out.mono ?_; rintro e w2 ⟨rfl, hB2⟩; have hBw2 := hB0.trans (hB2.mono hB0.size); have hBw4 := hBw2.trans ((below_two (w := w2) (.cells #[.slice A a.ids.length c, .bool a.root.cell, .int .i64 a.root.n, .bool a.jumps] 66 (0, 0)) (.cells #[.bool p.base.cell, .int .i64 p.base.n, .int .i64 p.id, .int .i64 p.arg, .bool p.jumps] 68 (0, 0))).mono hBw2.size); have j7 := Lib.hid (two_new1 w2 (.cells #[.slice A a.ids.length c, .bool a.root.cell, .int .i64 a.root.n, .bool a.jumps] 66 (0, 0)) (.cells #[.bool p.base.cell, .int .i64 p.base.n, .int .i64 p.id, .int .i64 p.arg, .bool p.jumps] 68 (0, 0))); have j9 := Lib.hid (two_new2 w2 (.cells #[.slice A a.ids.length c, .bool a.root.cell, .int .i64 a.root.n, .bool a.jumps] 66 (0, 0)) (.cells #[.bool p.base.cell, .int .i64 p.base.n, .int .i64 p.id, .int .i64 p.arg, .bool p.jumps] 68 (0, 0)))))
      go_ret2
      exact ⟨v, rfl, own_base HO.out hBw6.size, hBw6.trans (hB7.mono hBw6.size)⟩
    · have hof : Ar.underOf a p = (Ar.placesOf a).filter (Ar.underIs p) := by unfold Ar.underOf; rw [if_pos hi]
      rw [hi] at HI; rw [hof]
      clear hof hi
      go_enter Tryz.func15, Tryz.ntmps15
      go_wp2_with (first
        | (go_at_call 41; refine (listw_inner a A c P (w2.heap.size + 1) p w6 HR.out hl1 HL2.out (HT.out w6 hBw6) k9.out).mono ?_; rintro e w7 ⟨v, rfl, ho, hB7⟩; have HO := Lib.hid ho; clear ho)
        | (go_at_call 42; refine (where_inner a A c (w2.heap.size + 1) w6).mono ?_; rintro e w' ⟨rfl, rfl⟩)
        | (go_at_call 34; refine (HI.out _).mono ?_; rintro e w6 ⟨rfl, hB6⟩; have hBw6 := hBw4.trans (hB6.mono hBw4.size); have k9 := Lib.hid ((hB6.block _ (lt_of_heap j9.out)).trans j9.out); obtain ⟨q0, q1, q2, q3, -⟩ := cells4 ((hB6.block _ (lt_of_heap j7.out)).trans j7.out))
        | (go_at_call 36; refine HF.out.mono ?_; rintro e w2 ⟨rfl, hB2⟩; have hBw2 := hB0.trans (hB2.mono hB0.size); have hBw4 := hBw2.trans ((below_two (w := w2) (.cells #[.slice A a.ids.length c, .bool a.root.cell, .int .i64 a.root.n, .bool a.jumps] 66 (0, 0)) (.cells #[.bool p.base.cell, .int .i64 p.base.n, .int .i64 p.id, .int .i64 p.arg, .bool p.jumps] 68 (0, 0))).mono hBw2.size); have j7 := Lib.hid (two_new1 w2 (.cells #[.slice A a.ids.length c, .bool a.root.cell, .int .i64 a.root.n, .bool a.jumps] 66 (0, 0)) (.cells #[.bool p.base.cell, .int .i64 p.base.n, .int .i64 p.id, .int .i64 p.arg, .bool p.jumps] 68 (0, 0))); have j9 := Lib.hid (two_new2 w2 (.cells #[.slice A a.ids.length c, .bool a.root.cell, .int .i64 a.root.n, .bool a.jumps] 66 (0, 0)) (.cells #[.bool p.base.cell, .int .i64 p.base.n, .int .i64 p.id, .int .i64 p.arg, .bool p.jumps] 68 (0, 0)))))
      go_ret2
      exact ⟨v, rfl, own_base HO.out hBw6.size, hBw6.trans (hB7.mono hBw6.size)⟩
  · have hm : Ar.underRes a m = [] := by unfold Ar.underRes; rw [if_neg h0]
    have HM := Lib.hid hm
    have hform : ∃ A1 n1 c1 x1 x2 x3, fqRt a A c m = .agg #[.slice A1 n1 c1, .bool x1, .int .i64 x2, .bool x3] := by
      unfold fqRt
      split
      · exact ⟨_, _, _, _, _, _, rfl⟩
      · exact findRt_form a A c m
    have hform2 : ∃ p : Ar.Pl, fqPl a m = .agg #[.bool p.base.cell, .int .i64 p.base.n, .int .i64 p.id, .int .i64 p.arg, .bool p.jumps] := by
      unfold fqPl
      split
      · exact ⟨plZ, rfl⟩
      · exact plRes_form _
    obtain ⟨A1, n1, c1, x1, x2, x3, h1⟩ := hform
    obtain ⟨p, h2⟩ := hform2
    rw [h1, h2, hav, hmv] at HF
    rw [hav, hmv]
    have hne : ((Ar.fqErr a m : Int) != 0) = true := by rw [bne_iff_ne]; omega
    clear hm h1 h2 hA h0 hav hmv
    generalize Ar.fqErr a m = er at *
    go_enter Tryz.func15, Tryz.ntmps15
    go_wp2_with (go_at_call 36; refine HF.out.mono ?_; rintro e w2 ⟨rfl, hB2⟩; have hBw2 := hB0.trans (hB2.mono hB0.size))
    go_ret2
    exact ⟨_, rfl, by rw [HM.out]; exact World.ownsRow_nil _ _ _ _, hBw2.trans ((below_two _ _).mono hBw2.size)⟩
end Go.Proofs.YtepdlghobopdbaaGreatDoor
