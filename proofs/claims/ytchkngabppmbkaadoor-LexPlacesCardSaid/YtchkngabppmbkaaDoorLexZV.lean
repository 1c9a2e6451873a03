/-
  WALKS: lex.Spot.
-/
import Derived.Test.YtchkngabppmbkaaDoorLexI
import Derived.Test.YtchkngabppmbkaaDoorLexZU
namespace Go.Proofs.YtchkngabppmbkaaDoor
open Go.RowKit Go.Shelf
attribute [local go_sem] Oper.semAt_some

theorem below_put {B : Nat} {a w : World} (h : Below B a w) {b : Nat} (hb : B ≤ b) (o : Obj) : Below B a (w.putObj b o) :=
  ⟨h.os, h.tape, h.output, by simpa using h.size, fun k hk => (World.putObj_heap_other (by omega)).trans (h.block k hk)⟩

/-- Three blocks of a call's own, behind what lay. -/
def Tri (w : World) (o0 o1 o2 : Obj) (W : World) : Prop := Below w.heap.size w W ∧ W.heap[w.heap.size]? = some o0 ∧ W.heap[w.heap.size + 1]? = some o1 ∧ W.heap[w.heap.size + 1 + 1]? = some o2
theorem Tri.first {w : World} (o0 o1 o2 : Obj) : Tri w o0 o1 o2 (((w.alloc o0).alloc o1).alloc o2) := by
  have h1 := World.alloc_heap_new w o0
  have h2 := World.alloc_heap_new (w.alloc o0) o1
  have h3 := World.alloc_heap_new ((w.alloc o0).alloc o1) o2
  simp only [World.size_alloc] at h2 h3
  exact ⟨(((Below.refl _ _).alloc (Nat.le_refl _) _).alloc (by simp) _).alloc (by simp; omega) _, (Below.heap_alloc _ _ _ (by simp; omega)).trans ((Below.heap_alloc _ _ _ (by simp)).trans h1), (Below.heap_alloc _ _ _ (by simp)).trans h2, h3⟩
theorem Tri.size {w : World} {o0 o1 o2 : Obj} {W : World} (h : Tri w o0 o1 o2 W) : w.heap.size + 3 ≤ W.heap.size := (Array.getElem?_eq_some_iff.1 h.2.2.2).1
theorem Tri.next {w : World} {o0 o1 o2 : Obj} {W W' : World} (h : Tri w o0 o1 o2 W) (hB : Below W.heap.size W W') : Tri w o0 o1 o2 W' := by
  have hz := h.size
  exact ⟨h.1.trans (hB.mono (by omega)), (hB.block _ (by omega)).trans h.2.1, (hB.block _ (by omega)).trans h.2.2.1, (hB.block _ (by omega)).trans h.2.2.2⟩
theorem Tri.lay {w : World} {o0 o1 o2 : Obj} {W : World} (h : Tri w o0 o1 o2 W) (o : Obj) : Tri w o0 o1 o2 (W.alloc o) := h.next ((Below.refl _ _).alloc (Nat.le_refl _) _)
theorem Tri.turn {w : World} {o0 o1 o2 : Obj} {W : World} (h : Tri w o0 o1 o2 W) (B j : Nat) (v : Value) (hB : w.heap.size + 3 ≤ B) : Tri w o0 o1 o2 (W.setCell ⟨B, j, none⟩ v) :=
  ⟨h.1.setCell (p := ⟨B, j, none⟩) (by simp; omega) v, (Below.heap_setCell _ _ _ _ (by simp; omega)).trans h.2.1, (Below.heap_setCell _ _ _ _ (by simp; omega)).trans h.2.2.1, (Below.heap_setCell _ _ _ _ (by simp; omega)).trans h.2.2.2⟩
theorem Tri.put {w : World} {o0 o1 o2 : Obj} {W : World} (h : Tri w o0 o1 o2 W) (b : Nat) (o : Obj) (hb : w.heap.size + 3 ≤ b) : Tri w o0 o1 o2 (W.putObj b o) :=
  ⟨below_put h.1 (by omega) o, (World.putObj_heap_other (by omega)).trans h.2.1, (World.putObj_heap_other (by omega)).trans h.2.2.1, (World.putObj_heap_other (by omega)).trans h.2.2.2⟩
theorem one_set {W : World} {b : Nat} {u x : Value} {t : TypeId} (h : W.heap[b]? = some (.cells #[u] t (0, 0))) : (W.setCell ⟨b, 0, none⟩ x).heap[b]? = some (.cells #[x] t (0, 0)) := by
  obtain ⟨hlt, hk⟩ := Array.getElem?_eq_some_iff.1 h
  show (W.heap.modify b _)[b]? = _
  rw [Array.getElem?_eq_getElem (by rw [Array.size_modify]; exact hlt), Array.getElem_modify_self, hk]
  rfl
/-- The results' cells, turned: a pair and an error. -/
theorem Tri.fin2 {w : World} {o0 : Obj} {x y z : Value} {t t' : TypeId} {W : World} (h : Tri w o0 (.cells #[x, y] t (0, 0)) (.cells #[z] t' (0, 0)) W) (a b c : Value) :
    Tri w o0 (.cells #[a, b] t (0, 0)) (.cells #[c] t' (0, 0)) (((W.setCell ⟨w.heap.size + 1, 0, none⟩ a).setCell ⟨w.heap.size + 1, 1, none⟩ b).setCell ⟨w.heap.size + 1 + 1, 0, none⟩ c) := by
  refine ⟨((h.1.setCell (p := ⟨w.heap.size + 1, 0, none⟩) (by simp) a).setCell (p := ⟨w.heap.size + 1, 1, none⟩) (by simp) b).setCell (p := ⟨w.heap.size + 1 + 1, 0, none⟩) (by simp; omega) c, ?_, ?_, ?_⟩
  · exact (Below.heap_setCell _ _ _ _ (by simp; omega)).trans ((Below.heap_setCell _ _ _ _ (by simp)).trans ((Below.heap_setCell _ _ _ _ (by simp)).trans h.2.1))
  · exact (Below.heap_setCell _ _ _ _ (by simp)).trans (pair_set1 (pair_set0 h.2.2.1))
  · exact one_set ((Below.heap_setCell _ _ _ _ (by simp)).trans ((Below.heap_setCell _ _ _ _ (by simp)).trans h.2.2.2))
/-- The results' cells, turned: a number and an error. -/
theorem Tri.fin1 {w : World} {o0 : Obj} {x z : Value} {t t' : TypeId} {W : World} (h : Tri w o0 (.cells #[x] t (0, 0)) (.cells #[z] t' (0, 0)) W) (a c : Value) :
    Tri w o0 (.cells #[a] t (0, 0)) (.cells #[c] t' (0, 0)) ((W.setCell ⟨w.heap.size + 1, 0, none⟩ a).setCell ⟨w.heap.size + 1 + 1, 0, none⟩ c) := by
  refine ⟨(h.1.setCell (p := ⟨w.heap.size + 1, 0, none⟩) (by simp) a).setCell (p := ⟨w.heap.size + 1 + 1, 0, none⟩) (by simp; omega) c, ?_, ?_, ?_⟩
  · exact (Below.heap_setCell _ _ _ _ (by simp; omega)).trans ((Below.heap_setCell _ _ _ _ (by simp)).trans h.2.1)
  · exact (Below.heap_setCell _ _ _ _ (by simp)).trans (one_set h.2.2.1)
  · exact one_set ((Below.heap_setCell _ _ _ _ (by simp)).trans h.2.2.2)
theorem pair_cells {W : World} {b : Nat} {x y : Value} {t : TypeId} (h : W.heap[b]? = some (.cells #[x, y] t (0, 0))) : W.cell? ⟨b, 0, none⟩ = some x ∧ W.cell? ⟨b, 1, none⟩ = some y ∧ W.frozen? ⟨b, 0, none⟩ = false ∧ W.frozen? ⟨b, 1, none⟩ = false := by
  refine ⟨?_, ?_, ?_, ?_⟩ <;> simp [World.cell?, World.frozen?, h]
theorem one_cells {W : World} {b : Nat} {x : Value} {t : TypeId} (h : W.heap[b]? = some (.cells #[x] t (0, 0))) : W.cell? ⟨b, 0, none⟩ = some x ∧ W.frozen? ⟨b, 0, none⟩ = false := by
  refine ⟨?_, ?_⟩ <;> simp [World.cell?, World.frozen?, h]

set_option maxRecDepth 100000 in
set_option maxHeartbeats 1000000 in
theorem spots_in (n : Nat) (s : ByteArray) (w : World) :
    CallsIn Fence.wide n Tryd.prog 54 #[.string s] w fun e w' => e = .returned (.func (.func 86) #[] #[.pointer (some ⟨w.heap.size, 0, none⟩)]) ∧ w' = w.alloc (.cells #[.string s] 9) := by
  refine callsIn_of_wp Tryd.func54 rfl trivial ?_ rfl
  simp only [Tryd.ntmps54, List.size_toArray, List.length_cons, List.length_nil, Nat.reduceAdd, Nat.reduceSub, Array.replicate_succ, Array.replicate_zero, List.push_toArray, List.append_toArray, List.nil_append, List.cons_append]
  gi_wp2
  go_ret
  exact ⟨rfl, rfl⟩

def spotRes (q : (Nat × Nat) × Nat) : Value := .tuple #[.agg #[.int .i64 (q.1.1 : Int), .int .i64 (q.1.2 : Int)], .int .i64 (q.2 : Int)]

set_option maxRecDepth 100000 in
set_option maxHeartbeats 4000000 in
theorem spot_in (s : ByteArray) (p : Int) (hs : s.size ≤ 281474976710656) (w : World) :
    CallsIn Fence.wide 9 Tryd.prog 24 #[.string s, .int .i64 p] w fun e w' => e = .returned (spotRes (Lx.spotOf s p)) ∧ Below w.heap.size w w' := by
  have HT := Lib.hid (fun W => textError_any s W (by omega))
  refine callsIn_of_wp_marks Tryd.func24 rfl trivial ?_ rfl
  simp only [Tryd.ntmps24, List.size_toArray, List.length_cons, List.length_nil, Nat.reduceAdd, Nat.reduceSub, Array.replicate_succ, Array.replicate_zero, List.push_toArray, List.append_toArray, List.nil_append, List.cons_append]
  have t0 := Tri.first (w := w) (.cells #[.int .i64 p] 3) (.cells #[.int .i64 0, .int .i64 0] 32) (.cells #[.int .i64 0] 24)
  obtain ⟨r, hr⟩ : ∃ r, Lx.spotOf s p = r := ⟨_, rfl⟩
  rw [hr]
  unfold Lx.spotOf at hr
  have HSP := Lib.hid hr; clear hr
  by_cases h0 : (Lx.textErr s).2 ≠ 0
  · have HR : Hid (r = ((0, 0), (Lx.textErr s).2)) := by rw [Hid, ← HSP.out, if_pos h0]
    clear HSP
    generalize (Lx.textErr s).1 = q at *
    generalize (Lx.textErr s).2 = er at *
    have h0' : ((er : Int) != 0) = true := by rw [bne_iff_ne]; omega
    clear h0
    have HT0 := Lib.hid t0; clear t0
    gi_wp2_with (refine ⟨trivial, ?_⟩; gi_at_call 49; refine (callsIn_wide.2 (HT.out _)).mono ?_; rintro e w1 ⟨rfl, hB1⟩; have T1 := HT0.out.next hB1; obtain ⟨c1, c1', f1, f1'⟩ := pair_cells T1.2.2.1; obtain ⟨c2, f2⟩ := one_cells T1.2.2.2; have HT1 := Lib.hid T1; clear T1)
    have T2 := HT1.out.fin2 (.int .i64 0) (.int .i64 0) (.int .i64 (er : Int))
    obtain ⟨x0, x1, _, _⟩ := pair_cells T2.2.2.1
    obtain ⟨x2, _⟩ := one_cells T2.2.2.2
    exact ⟨spotRes r, by rw [HR.out]; simp [spotRes, results, Tryd.results24, go_sem, x0, x1, x2], rfl, T2.1⟩
  · have HS0 : Hid ((if 0 ≤ p ∧ p ≤ s.size then (Lx.spotAt s p.toNat, 0) else ((0, 0), 3)) = r) := by rw [Hid, ← HSP.out, if_neg h0]
    clear HSP
    obtain ⟨q, er, hT⟩ : ∃ q er, Lx.textErr s = (q, er) := ⟨_, _, rfl⟩
    rw [hT] at h0 HT
    obtain rfl : er = 0 := by simpa using h0
    clear h0 hT
    have HT0 := Lib.hid t0; clear t0
    gi_wp2_with (first
      | (refine ⟨trivial, ?_⟩; gi_at_call 49; refine (callsIn_wide.2 (HT.out _)).mono ?_; rintro e w1 ⟨rfl, hB1⟩; have T1 := HT0.out.next hB1)
      | (refine ⟨trivial, ?_⟩; gi_at_call 54; refine (spots_in _ _ _).mono ?_; rintro e w' ⟨rfl, rfl⟩))
    have bs := Boxed.new w1 9 (.string s)
    have T0 := T1.lay (.cells #[.string s] 9)
    have hz := T1.size
    have hz0 : (w1.alloc (.cells #[.string s] 9)).heap.size = w1.heap.size + 1 := by simp
    generalize w1.alloc (.cells #[.string s] 9) = W0 at *
    clear T1 hB1
    refine range_cell (F := Fence.wide) rfl (by omega) (gf := 86) (lb := #[.pointer (some ⟨w1.heap.size, 0, none⟩)]) rfl trivial (enters_of Tryd.func86 (by kernel_rfl) rfl) (encs := encSpot s) (M := s.size) (fun _ => rfl)
      (fun W1 J Jx hb hz1 hJ hY h0 => spots1 (9 - 1) (by omega) _ w1.heap.size s hs J Jx W1 (by rw [hz1]; exact hJ) hY (boxed_below bs hb) h0)
      (fun k W => Tri w (.cells #[.int .i64 p] 3 (0, 0)) (.cells #[.int .i64 0, .int .i64 0] 32 (0, 0)) (.cells #[.int .i64 0] 24 (0, 0)) W ∧ Hid (∀ j : Nat, j < k → (j : Int) ≠ p))
      (fun k W => Tri w (.cells #[.int .i64 p] 3 (0, 0)) (spotO (Lx.spotAt s k)) (.cells #[.int .i64 0] 24 (0, 0)) W ∧ Hid ((k : Int) = p))
      ⟨fun k W o h => ⟨h.1.lay o, h.2⟩, fun k W j v h => ⟨h.1.turn _ j v (by omega), h.2⟩⟩ (fun k W b o hb h => ⟨h.1.put b o (by omega), h.2⟩) (fun k W b o hb h => ⟨h.1.put b o (by omega), h.2⟩) ⟨T0, fun j hj => by omega⟩
      (fun k a' W => ∃ Bx, W0.heap.size + 2 ≤ Bx ∧ W.heap[Bx]? = some (spotO (Lx.spotAt s k)) ∧ a' = Act.mk #[Value.string s, Value.int .i64 p, undef, Value.pointer (some { block := w.heap.size, off := 0 }),
          Value.pointer (some { block := w.heap.size + 1, off := 0 }), Value.pointer (some { block := w.heap.size + 1 + 1, off := 0 }), Value.int IntKind.i64 ↑q, Value.int IntKind.i64 0,
          Value.int IntKind.i64 ↑k, Value.pointer (some { block := Bx, off := 0 }), Value.tuple #[Value.int IntKind.i64 ↑q, Value.int IntKind.i64 0], Value.string s,
          Value.tuple #[Value.int IntKind.i64 ↑q, Value.int IntKind.i64 0], Value.int IntKind.i64 ↑q, Value.int IntKind.i64 0, Value.int IntKind.i64 0, Value.bool false, undef, undef, Value.string s,
          Value.func (Fn.func 86) #[] #[Value.pointer (some { block := w1.heap.size, off := 0 })], Value.int IntKind.i64 ↑k, .agg #[.int .i64 ((Lx.spotAt s k).1 : Int), .int .i64 ((Lx.spotAt s k).2 : Int)],
          undef, undef, undef, undef, undef] [])
      (fun k a' W o h => by
        obtain ⟨Bx, h1, h2, h3⟩ := h
        exact ⟨Bx, h1, (World.putObj_heap_other (by omega)).trans h2, h3⟩) ?assign ?body ?done ?stop
    case assign =>
      rintro k W K hkM ⟨hT, hj⟩ hW hK
      dsimp only [encSpot]
      gi_wp2
      exact hK _ _ ((Below.refl _ _).alloc (Nat.le_refl _) _) ⟨hT.lay _, hj⟩ ⟨W.heap.size, hW, World.alloc_heap_new _ _, rfl⟩
    case body =>
      rintro k a' W hkM ⟨hT, hj⟩ hW ⟨Bx, hBx, hX, rfl⟩
      obtain ⟨c0, f0⟩ := one_cells hT.2.1
      obtain ⟨c1, c1', f1, f1'⟩ := pair_cells hT.2.2.1
      obtain ⟨c2, f2⟩ := one_cells hT.2.2.2
      obtain ⟨x0, x1, _, _⟩ := pair_cells (x := .int .i64 ((Lx.spotAt s k).1 : Int)) (y := .int .i64 ((Lx.spotAt s k).2 : Int)) hX
      have HTT := Lib.hid hT; clear hT
      by_cases hp : (k : Int) = p
      · have hbe : ((k : Int) == p) = true := by rw [beq_iff_eq]; exact hp
        have HP := Lib.hid hp; clear hp
        gi_wp2
        have T2 := HTT.out.fin2 (.int .i64 ((Lx.spotAt s k).1 : Int)) (.int .i64 ((Lx.spotAt s k).2 : Int)) (.int .i64 0)
        exact ⟨by rw [Below.heap_setCell _ _ _ _ (by simp; omega), Below.heap_setCell _ _ _ _ (by simp; omega), Below.heap_setCell _ _ _ _ (by simp; omega)], by rw [Below.heap_setCell _ _ _ _ (by simp; omega), Below.heap_setCell _ _ _ _ (by simp; omega), Below.heap_setCell _ _ _ _ (by simp; omega)], T2, HP.out⟩
      · have hbe : ((k : Int) == p) = false := by rw [beq_eq_false_iff_ne]; exact hp
        have HP := Lib.hid hp; clear hp
        gi_wp2
        exact ⟨Below.refl _ _, HTT.out, fun j hjk => by
          by_cases e : j = k
          · subst e; exact HP.out
          · exact hj.out j (by omega)⟩
    case done =>
      rintro W ⟨hT, hj⟩ hK
      have HR : Hid (r = ((0, 0), 3)) := by
        rw [Hid, ← HS0.out, if_neg]
        rintro ⟨h1, h2⟩
        exact hj.out p.toNat (by omega) (by omega)
      obtain ⟨c1, c1', f1, f1'⟩ := pair_cells hT.2.2.1
      obtain ⟨c2, f2⟩ := one_cells hT.2.2.2
      have HTT := Lib.hid hT; clear hT
      have HK := Lib.hid hK; clear hK
      gi_wp2
      have T2 := HTT.out.fin2 (.int .i64 0) (.int .i64 0) (.int .i64 3)
      have hK2 : (((W.setCell ⟨w.heap.size + 1, 0, none⟩ (.int .i64 0)).setCell ⟨w.heap.size + 1, 1, none⟩ (.int .i64 0)).setCell ⟨w.heap.size + 1 + 1, 0, none⟩ (.int .i64 3)).heap[W0.heap.size]? = some (.deferred (some [])) := by
        rw [Below.heap_setCell _ _ _ _ (by simp; omega), Below.heap_setCell _ _ _ _ (by simp; omega), Below.heap_setCell _ _ _ _ (by simp; omega)]; exact HK.out
      refine ⟨by simp, .inl ⟨_, _, rfl, run_takeDeferred hK2, ?_⟩⟩
      have T3 := T2.put W0.heap.size (.deferred none) (by omega)
      obtain ⟨x0, x1, _, _⟩ := pair_cells T3.2.2.1
      obtain ⟨x2, _⟩ := one_cells T3.2.2.2
      generalize World.putObj _ W0.heap.size (.deferred none) = WF at *
      exact ⟨spotRes r, by rw [HR.out]; simp [spotRes, results, Tryd.results24, go_sem, x0, x1, x2], rfl, T3.1⟩
    case stop =>
      rintro k W hkM ⟨hT, hp⟩ hK
      have HR : Hid (r = (Lx.spotAt s k, 0)) := by
        have := hp.out
        rw [Hid, ← HS0.out, if_pos (by omega)]
        rw [show p.toNat = k by omega]
      have HTT := Lib.hid hT; clear hT
      have HK := Lib.hid hK; clear hK
      gi_wp2
      refine ⟨by simp, .inl ⟨_, _, rfl, run_takeDeferred HK.out, ?_⟩⟩
      have T3 := HTT.out.put W0.heap.size (.deferred none) (by omega)
      obtain ⟨x0, x1, _, _⟩ := pair_cells (x := .int .i64 ((Lx.spotAt s k).1 : Int)) (y := .int .i64 ((Lx.spotAt s k).2 : Int)) T3.2.2.1
      obtain ⟨x2, _⟩ := one_cells T3.2.2.2
      generalize World.putObj _ W0.heap.size (.deferred none) = WF at *
      exact ⟨spotRes r, by rw [HR.out]; simp [spotRes, results, Tryd.results24, go_sem, x0, x1, x2], rfl, T3.1⟩

theorem spot_any (s : ByteArray) (p : Int) (hs : s.size ≤ 281474976710656) (w : World) :
    Calls Tryd.prog 24 #[.string s, .int .i64 p] w fun e w' => e = .returned (spotRes (Lx.spotOf s p)) ∧ Below w.heap.size w w' := callsIn_wide.1 (spot_in s p hs w)
end Go.Proofs.YtchkngabppmbkaaDoor
