/-
  WALKS: whether a place has a move.
-/
import Derived.Test.YtepdlghobopdbaaGreatDoorAs
namespace Go.Proofs.YtepdlghobopdbaaGreatDoor
open Go.RowKit Go.Shelf
attribute [local go_sem] Oper.semAt_some

def mvEq (a b : Ar.Mv) : Bool := decide (a.id = b.id ∧ a.arg = b.arg ∧ a.kind = b.kind ∧ a.n = b.n)
theorem mvEq_iff (a b : Ar.Mv) : mvEq a b = decide (a = b) := by
  cases a; cases b
  simp [mvEq]
theorem mv_equal (w : World) (a b : Ar.Mv) : (Op.equalIn 10000 37 (mvV a) (mvV b)).run Tryz.prog w = .ok (mvEq a b) w := by
  unfold mvV
  rw [run_equalIn_struct w 9999 37 _ _ (by kernel_rfl) (by kernel_rfl)]
  simp only [Program.fieldsOf, Tryz.underlying37]
  go_simp
  unfold mvEq
  by_cases h1 : a.id = b.id
  · by_cases h2 : a.arg = b.arg
    · by_cases h3 : a.kind = b.kind
      · by_cases h4 : a.n = b.n <;> simp [h1, h2, h3, h4]
      · simp [h1, h2, h3]
    · simp [h1, h2]
  · simp [h1]
theorem run_eql_mv (w : World) (a b : Ar.Mv) : (binOp .eql 37 (.agg #[.int .i64 a.id, .int .i64 a.arg, .int .u8 a.kind, .int .i64 a.n]) (.agg #[.int .i64 b.id, .int .i64 b.arg, .int .u8 b.kind, .int .i64 b.n])).run Tryz.prog w = .ok (.bool (mvEq a b)) w := by
  rw [run_eql_struct]
  have := mv_equal w a b
  unfold mvV at this
  rw [this]; rfl
theorem run_neq_mv (w : World) (a b : Ar.Mv) : (binOp .neq 37 (.agg #[.int .i64 a.id, .int .i64 a.arg, .int .u8 a.kind, .int .i64 a.n]) (.agg #[.int .i64 b.id, .int .i64 b.arg, .int .u8 b.kind, .int .i64 b.n])).run Tryz.prog w = .ok (.bool (!mvEq a b)) w := by
  rw [run_neq_struct]
  have := mv_equal w a b
  unfold mvV at this
  rw [this]; rfl
theorem mv_parts {x m : Ar.Mv} (h : ¬ x = m) (h1 : x.id = m.id) (h2 : x.arg = m.arg) (h3 : x.kind = m.kind) (h4 : x.n = m.n) : False := h (by cases x; cases m; simp_all)
namespace Ar
def hasOf (p : Pl) (m : Mv) : Bool := (movesOf p).any fun x => mvEq x m
end Ar
theorem three_new (W : World) (o1 o2 o3 : Obj) : Ext W.heap.size W (((W.alloc o1).alloc o2).alloc o3) ∧ (((W.alloc o1).alloc o2).alloc o3).heap[W.heap.size]? = some o1 ∧ (((W.alloc o1).alloc o2).alloc o3).heap[W.heap.size + 1]? = some o2 ∧
    (((W.alloc o1).alloc o2).alloc o3).heap[W.heap.size + 1 + 1]? = some o3 ∧ W.heap.size + 3 ≤ (((W.alloc o1).alloc o2).alloc o3).heap.size := by
  have h1 := World.alloc_heap_new W o1
  have h2 := World.alloc_heap_new (W.alloc o1) o2
  have h3 := World.alloc_heap_new ((W.alloc o1).alloc o2) o3
  simp only [World.size_alloc] at h2 h3
  have up : ∀ (V : World) (o : Obj) (k : Nat) (q : Obj), V.heap[k]? = some q → (V.alloc o).heap[k]? = some q := fun V o k q h => (Below.heap_alloc _ _ _ (lt_of_heap h)).trans h
  exact ⟨(((Ext.refl _ W).alloc (Nat.le_refl _) _).alloc (by simp) _).alloc (by simp) _, up _ _ _ _ (up _ _ _ _ h1), up _ _ _ _ h2, h3, by simp⟩

set_option maxRecDepth 100000 in
set_option maxHeartbeats 4000000 in
theorem has_any (p : Ar.Pl) (m : Ar.Mv) (w : World) (h1 : 1 ≤ p.base.n) (h64 : p.base.n ≤ 64) :
    Calls Tryz.prog 74 #[plV p, mvV m] w fun e w' => e = .returned (.bool (Ar.hasOf p m)) ∧ Below w.heap.size w w' := by
  have HS := Lib.hid (moves_gives 1 (Nat.le_refl _) p h1 h64)
  have qe := run_eql_mv
  have qg : ∀ (x y : Operand) (xs ys : Array Value) (w : World), (eqGuard .eql 37 x y (.agg xs) (.agg ys)).run Tryz.prog w = .ok () w := fun x y xs ys w => run_eqGuard_agg w _ _ x y xs ys (by kernel_rfl)
  obtain ⟨R, hR⟩ : ∃ R, Ar.hasOf p m = R := ⟨_, rfl⟩
  rw [hR]
  have HR := Lib.hid hR; clear hR
  have hpv : plV p = .agg #[.bool p.base.cell, .int .i64 p.base.n, .int .i64 p.id, .int .i64 p.arg, .bool p.jumps] := rfl
  have hmv : mvV m = .agg #[.int .i64 m.id, .int .i64 m.arg, .int .u8 m.kind, .int .i64 m.n] := rfl
  rw [hpv, hmv]; clear hpv hmv
  refine (callsIn_wide (n := 9)).1 (callsIn_of_wp_marks Tryz.func74 rfl trivial ?_ rfl)
  simp only [Tryz.ntmps74, List.size_toArray, List.length_cons, List.length_nil, Nat.reduceAdd, Nat.reduceSub, Array.replicate_succ, Array.replicate_zero, List.push_toArray, List.append_toArray, List.nil_append, List.cons_append]
  obtain ⟨hE, h1, h2, h3, hsz⟩ := three_new w (plO p) (mvO m) (.cells #[.bool false] 4)
  unfold plO mvO at hE h1 h2 h3 hsz
  gi_wp2
  generalize ((w.alloc (.cells #[.bool p.base.cell, .int .i64 p.base.n, .int .i64 p.id, .int .i64 p.arg, .bool p.jumps] 68)).alloc (.cells #[.int .i64 m.id, .int .i64 m.arg, .int .u8 m.kind, .int .i64 m.n] 37)).alloc (.cells #[.bool false] 4) = Wl at *
  refine range_own (n := 9) (by omega) (ba := #[plV p]) (lb := #[]) rfl (enters_of Tryz.func64 (by kernel_rfl) rfl) encMv_size (HS.out.any) (fun l => .inl ⟨l, rfl⟩) (fun _ _ => trivial)
    (fun pre W' => (pre.any fun x => mvEq x m) = false ∧ Below w.heap.size w W' ∧ W'.heap[w.heap.size + 1]? = some (mvO m) ∧ Boxed W' (w.heap.size + 1 + 1) 4 (.bool false))
    (fun W' => R = true ∧ Below w.heap.size w W' ∧ Boxed W' (w.heap.size + 1 + 1) 4 (.bool true))
    (fun _ _ _ => trivial)
    (fun pre => (lasts_pure _ _).and ((lasts_below _ (by omega)).and (Lasts.and (fun A B e h => e.cells _ _ h rfl) (lasts_boxed _ _ _ _))))
    ((lasts_pure _ _).and ((lasts_below _ (by omega)).and (lasts_boxed _ _ _ _)))
    ⟨rfl, hE.below, h2, h3⟩
    (fun x a' W' => ∃ bx, W'.heap[bx]? = some (mvO x) ∧ a' = { tmps := #[.agg #[.bool p.base.cell, .int .i64 p.base.n, .int .i64 p.id, .int .i64 p.arg, .bool p.jumps], .agg #[.int .i64 m.id, .int .i64 m.arg, .int .u8 m.kind, .int .i64 m.n], .pointer (some ⟨w.heap.size, 0, none⟩), .pointer (some ⟨w.heap.size + 1, 0, none⟩), .pointer (some ⟨w.heap.size + 1 + 1, 0, none⟩), .pointer (some ⟨bx, 0, none⟩), .agg #[.bool p.base.cell, .int .i64 p.base.n, .int .i64 p.id, .int .i64 p.arg, .bool p.jumps], .func (.func 64) #[.agg #[.bool p.base.cell, .int .i64 p.base.n, .int .i64 p.id, .int .i64 p.arg, .bool p.jumps]] #[], .agg #[.int .i64 x.id, .int .i64 x.arg, .int .u8 x.kind, .int .i64 x.n], undef, undef, undef], defers := [] })
    (fun x a' A B e h => by obtain ⟨bx, h1, h2⟩ := h; exact ⟨bx, e.cells _ _ h1 rfl, h2⟩) ?assign ?body ?done ?stop
  case assign =>
    intro pre x suf W1 K hL hI hs hK
    unfold encMv mvV
    gi_wp2
    exact hK _ _ ((Below.refl _ _).alloc (Nat.le_refl _) _) ⟨W1.heap.size, World.alloc_heap_new _ _, rfl⟩
  case body =>
    rintro pre x suf a' W1 hL ⟨hno, hB, hm, hb⟩ hs ⟨bx, hbx, rfl⟩
    obtain ⟨c0, c1, c2, c3⟩ := mvO_cells hbx
    obtain ⟨z0, z1, z2, z3⟩ := mvO_cells hm
    have hcb := hb.cell
    have hfb := hb.frozen
    have HM := Lib.hid hm; have HB1 := Lib.hid hb; have HNO := Lib.hid hno; have HL := Lib.hid hL
    have hb9 := Lib.hid (hb.set (.bool true))
    have hB9 := Lib.hid (hB.setCell (p := ⟨w.heap.size + 1 + 1, 0, none⟩) (by simp; omega) (.bool true))
    have hK9 := Lib.hid ((KeepO.refl Wl.heap.size W1).setCell ⟨w.heap.size + 1 + 1, 0, none⟩ (.bool true))
    clear hm hb hno hL hbx
    clear qe
    by_cases he : x = m
    · have hRT : R = true := by rw [← HR.out, Ar.hasOf, HL.out, List.any_append, List.any_cons, mvEq_iff, decide_eq_true he]; simp
      have HRT := Lib.hid hRT; clear hRT
      subst he
      gi_wp2
      exact ⟨hK9.out, HRT.out, hB9.out, hb9.out⟩
    · have HA : Hid (mvEq x m = false) := by rw [Hid, mvEq_iff, decide_eq_false he]
      have HE := Lib.hid he; clear he
      gi_wp2
      all_goals first
        | exact ⟨Keep.refl _ _, by rw [List.any_append, HNO.out]; simp [HA.out], hB, HM.out, HB1.out⟩
        | (exfalso; exact mv_parts HE.out ‹_› ‹_› ‹_› ‹_›)
  case done =>
    rintro W2 ⟨hno, hB, hm, hb⟩ hD
    have hcb := hb.cell
    have hfb := hb.frozen
    have hRN : R = false := by rw [← HR.out, Ar.hasOf]; exact hno
    have HRN := Lib.hid hRN
    have hD9 := Lib.hid (((KeepO.refl 0 W2).setCell ⟨w.heap.size + 1 + 1, 0, none⟩ (.bool false)).same _ _ (Nat.zero_le _) hD rfl)
    have hb9 := Lib.hid (hb.set (.bool false))
    have hB9 := Lib.hid (hB.setCell (p := ⟨w.heap.size + 1 + 1, 0, none⟩) (by simp; omega) (.bool false))
    have HD := Lib.hid hD; have HB1 := Lib.hid hb
    clear hD hm hb hno hRN
    gi_wp2
    generalize W2.setCell ⟨w.heap.size + 1 + 1, 0, none⟩ (.bool false) = Wf at *
    refine ⟨by simp, .inl ⟨_, _, rfl, run_takeDeferred hD9.out, ?_⟩⟩
    have hEx := Ext.put (n₀ := w.heap.size) (.deferred none) (by omega) hD9.out rfl
    have p5 := (Ext.boxed hb9.out hEx).cell
    have hBf := hB9.out.trans hEx.below
    generalize Wf.putObj Wl.heap.size (.deferred none) = Vf at *
    exact ⟨.bool false, by simp [results, Tryz.results74, go_sem, p5], by rw [HRN.out], hBf⟩
  case stop =>
    rintro W2 ⟨hp, hB, hb⟩ hD
    have HD := Lib.hid hD; have HP := Lib.hid hp; have HB := Lib.hid hB; have HBB := Lib.hid hb
    clear hD hp hB hb
    gi_wp2
    refine ⟨by simp, .inl ⟨_, _, rfl, run_takeDeferred HD.out, ?_⟩⟩
    have hEx := Ext.put (n₀ := w.heap.size) (.deferred none) (by omega) HD.out rfl
    have p5 := (Ext.boxed HBB.out hEx).cell
    have hBf := HB.out.trans hEx.below
    generalize W2.putObj Wl.heap.size (.deferred none) = Vf at *
    exact ⟨.bool true, by simp [results, Tryz.results74, go_sem, p5], by rw [HP.out], hBf⟩
/-- What the call's first block holds: a move. -/
structure MA (w : World) (m : Ar.Mv) (W : World) : Prop where
  below : Below w.heap.size w W
  mv : W.heap[w.heap.size]? = some (.cells #[.int .i64 m.id, .int .i64 m.arg, .int .u8 m.kind, .int .i64 m.n] 37 (0, 0))
theorem MA.next {w : World} {m : Ar.Mv} {W W' : World} (h : MA w m W) (hB : Below W.heap.size W W') : MA w m W' :=
  ⟨h.below.trans (hB.mono h.below.size), (hB.block _ (lt_of_heap h.mv)).trans h.mv⟩
theorem MA.first (w : World) (m : Ar.Mv) : MA w m (w.alloc (.cells #[.int .i64 m.id, .int .i64 m.arg, .int .u8 m.kind, .int .i64 m.n] 37 (0, 0))) :=
  ⟨(Below.refl _ _).alloc (Nat.le_refl _) _, World.alloc_heap_new _ _⟩
/-- A move in a block of the call's own. -/
def MB (b : Nat) (m : Ar.Mv) (W : World) : Prop := W.heap[b]? = some (.cells #[.int .i64 m.id, .int .i64 m.arg, .int .u8 m.kind, .int .i64 m.n] 37 (0, 0))
theorem MB.next {b : Nat} {m : Ar.Mv} {W W' : World} (h : MB b m W) (hB : Below W.heap.size W W') : MB b m W' := (hB.block _ (lt_of_heap h)).trans h
theorem MB.first (W : World) (m : Ar.Mv) : MB W.heap.size m (W.alloc (.cells #[.int .i64 m.id, .int .i64 m.arg, .int .u8 m.kind, .int .i64 m.n] 37 (0, 0))) := World.alloc_heap_new _ _
theorem below_mv (W : World) (m : Ar.Mv) : Below W.heap.size W (W.alloc (.cells #[.int .i64 m.id, .int .i64 m.arg, .int .u8 m.kind, .int .i64 m.n] 37 (0, 0))) := (Below.refl _ _).alloc (Nat.le_refl _) _
end Go.Proofs.YtepdlghobopdbaaGreatDoor
