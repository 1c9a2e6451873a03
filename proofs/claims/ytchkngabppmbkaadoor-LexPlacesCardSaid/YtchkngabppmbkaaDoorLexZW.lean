/-
  WALKS: lex.At; two spots compared.
-/
import Derived.Test.YtchkngabppmbkaaDoorLexN
import Derived.Test.YtchkngabppmbkaaDoorLexZV
namespace Go.Proofs.YtchkngabppmbkaaDoor
open Go.RowKit Go.Shelf

def spEq (a b l c : Int) : Bool := decide (a = l ∧ b = c)
theorem spot_equal (w : World) (a b l c : Int) : (Op.equalIn 10000 32 (.agg #[.int .i64 a, .int .i64 b]) (.agg #[.int .i64 l, .int .i64 c])).run Tryd.prog w = .ok (spEq a b l c) w := by
  rw [run_equalIn_struct w 9999 32 _ _ (by kernel_rfl) (by kernel_rfl)]
  simp only [Program.fieldsOf, Tryd.underlying32]
  go_simp
  unfold spEq
  by_cases h1 : a = l
  · by_cases h2 : b = c <;> simp [h1, h2]
  · simp [h1]
theorem run_eql_sp (w : World) (a b l c : Int) : (binOp .eql 32 (.agg #[.int .i64 a, .int .i64 b]) (.agg #[.int .i64 l, .int .i64 c])).run Tryd.prog w = .ok (.bool (spEq a b l c)) w := by
  rw [run_eql_struct, spot_equal]; rfl
theorem run_neq_sp (w : World) (a b l c : Int) : (binOp .neq 32 (.agg #[.int .i64 a, .int .i64 b]) (.agg #[.int .i64 l, .int .i64 c])).run Tryd.prog w = .ok (.bool (!spEq a b l c)) w := by
  rw [run_neq_struct, spot_equal]; rfl
theorem spEq_is (s : ByteArray) (l c : Int) (k : Nat) : spEq (Lx.spotAt s k).1 (Lx.spotAt s k).2 l c = Lx.isSpot s l c k := rfl

def atRes (q : Nat × Nat) : Value := .tuple #[.int .i64 (q.1 : Int), .int .i64 (q.2 : Int)]

attribute [local go_sem] Oper.semAt_some
set_option maxRecDepth 100000 in
set_option maxHeartbeats 4000000 in
theorem at_in (s : ByteArray) (l c : Int) (hs : s.size ≤ 281474976710656) (w : World) :
    CallsIn Fence.wide 9 Tryd.prog 26 #[.string s, .agg #[.int .i64 l, .int .i64 c]] w fun e w' => e = .returned (atRes (Lx.atOf s l c)) ∧ Below w.heap.size w w' := by
  have HT := Lib.hid (fun W => textError_any s W (by omega))
  refine callsIn_of_wp_marks Tryd.func26 rfl trivial ?_ rfl
  simp only [Tryd.ntmps26, List.size_toArray, List.length_cons, List.length_nil, Nat.reduceAdd, Nat.reduceSub, Array.replicate_succ, Array.replicate_zero, List.push_toArray, List.append_toArray, List.nil_append, List.cons_append]
  have t0 := Tri.first (w := w) (.cells #[.int .i64 l, .int .i64 c] 32) (.cells #[.int .i64 0] 3) (.cells #[.int .i64 0] 24)
  obtain ⟨r, hr⟩ : ∃ r, Lx.atOf s l c = r := ⟨_, rfl⟩
  rw [hr]
  unfold Lx.atOf at hr
  have HSP := Lib.hid hr; clear hr
  by_cases h0 : (Lx.textErr s).2 ≠ 0
  · have HR : Hid (r = (0, (Lx.textErr s).2)) := by rw [Hid, ← HSP.out, if_pos h0]
    clear HSP
    generalize (Lx.textErr s).1 = q at *
    generalize (Lx.textErr s).2 = er at *
    have h0' : ((er : Int) != 0) = true := by rw [bne_iff_ne]; omega
    clear h0
    have HT0 := Lib.hid t0; clear t0
    gi_wp2_with (refine ⟨trivial, ?_⟩; gi_at_call 49; refine (callsIn_wide.2 (HT.out _)).mono ?_; rintro e w1 ⟨rfl, hB1⟩; have T1 := HT0.out.next hB1; obtain ⟨c1, f1⟩ := one_cells T1.2.2.1; obtain ⟨c2, f2⟩ := one_cells T1.2.2.2; have HT1 := Lib.hid T1; clear T1)
    have T2 := HT1.out.fin1 (.int .i64 0) (.int .i64 (er : Int))
    obtain ⟨x1, _⟩ := one_cells T2.2.2.1
    obtain ⟨x2, _⟩ := one_cells T2.2.2.2
    exact ⟨atRes r, by rw [HR.out]; simp [atRes, results, Tryd.results26, go_sem, x1, x2], rfl, T2.1⟩
  · have HS0 : Hid (Lx.atFrom s l c (s.size + 1) 0 = r) := by rw [Hid, ← HSP.out, if_neg h0]
    clear HSP
    obtain ⟨q, er, hT⟩ : ∃ q er, Lx.textErr s = (q, er) := ⟨_, _, rfl⟩
    rw [hT] at h0 HT
    obtain rfl : er = 0 := by simpa using h0
    clear h0 hT
    have HT0 := Lib.hid t0; clear t0
    gi_wp2_with (first
      | (refine ⟨trivial, ?_⟩; gi_at_call 49; refine (callsIn_wide.2 (HT.out _)).mono ?_; rintro e w1 ⟨rfl, hB1⟩; have T1 := HT0.out.next hB1)
      | (refine ⟨trivial, ?_⟩; gi_at_call 54; refine (spots_in _ _ _).mono ?_; rintro e w' ⟨rfl, rfl⟩))
    have bs := Boxed.new w1 9 (.string s)
    have T0 := T1.lay (.cells #[.string s] 9)
    have hz := T1.size
    have hz0 : (w1.alloc (.cells #[.string s] 9)).heap.size = w1.heap.size + 1 := by simp
    generalize w1.alloc (.cells #[.string s] 9) = W0 at *
    clear T1 hB1
    refine range_cell (F := Fence.wide) rfl (by omega) (gf := 86) (lb := #[.pointer (some ⟨w1.heap.size, 0, none⟩)]) rfl trivial (enters_of Tryd.func86 (by kernel_rfl) rfl) (encs := encSpot s) (M := s.size) (fun _ => rfl)
      (fun W1 J Jx hb hz1 hJ hY h0 => spots1 (9 - 1) (by omega) _ w1.heap.size s hs J Jx W1 (by rw [hz1]; exact hJ) hY (boxed_below bs hb) h0)
      (fun k W => Tri w (.cells #[.int .i64 l, .int .i64 c] 32 (0, 0)) (.cells #[.int .i64 0] 3 (0, 0)) (.cells #[.int .i64 0] 24 (0, 0)) W ∧ Hid (Lx.atFrom s l c (s.size + 1 - k) k = r))
      (fun k W => Tri w (.cells #[.int .i64 l, .int .i64 c] 32 (0, 0)) (.cells #[.int .i64 (k : Int)] 3 (0, 0)) (.cells #[.int .i64 0] 24 (0, 0)) W ∧ Hid ((k, 0) = r))
      ⟨fun k W o h => ⟨h.1.lay o, h.2⟩, fun k W j v h => ⟨h.1.turn _ j v (by omega), h.2⟩⟩ (fun k W b o hb h => ⟨h.1.put b o (by omega), h.2⟩) (fun k W b o hb h => ⟨h.1.put b o (by omega), h.2⟩) ⟨T0, HS0⟩
      (fun k a' W => ∃ Bx, W0.heap.size + 2 ≤ Bx ∧ W.heap[Bx]? = some (spotO (Lx.spotAt s k)) ∧ a' = Act.mk #[Value.string s, .agg #[.int .i64 l, .int .i64 c], undef, Value.pointer (some { block := w.heap.size, off := 0 }),
          Value.pointer (some { block := w.heap.size + 1, off := 0 }), Value.pointer (some { block := w.heap.size + 1 + 1, off := 0 }), Value.int IntKind.i64 ↑q, Value.int IntKind.i64 0,
          Value.int IntKind.i64 ↑k, Value.pointer (some { block := Bx, off := 0 }), Value.tuple #[Value.int IntKind.i64 ↑q, Value.int IntKind.i64 0], Value.string s,
          Value.tuple #[Value.int IntKind.i64 ↑q, Value.int IntKind.i64 0], Value.int IntKind.i64 ↑q, Value.int IntKind.i64 0, Value.int IntKind.i64 0, Value.bool false, undef, Value.string s,
          Value.func (Fn.func 86) #[] #[Value.pointer (some { block := w1.heap.size, off := 0 })], Value.int IntKind.i64 ↑k, .agg #[.int .i64 ((Lx.spotAt s k).1 : Int), .int .i64 ((Lx.spotAt s k).2 : Int)],
          undef, undef, undef, undef] [])
      (fun k a' W o h => by
        obtain ⟨Bx, h1, h2, h3⟩ := h
        exact ⟨Bx, h1, (World.putObj_heap_other (by omega)).trans h2, h3⟩) ?assign ?body ?done ?stop
    case assign =>
      rintro k W K hkM ⟨hT, hj⟩ hW hK
      dsimp only [encSpot]
      gi_wp2
      exact hK _ _ ((Below.refl _ _).alloc (Nat.le_refl _) _) ⟨hT.lay _, hj⟩ ⟨W.heap.size, hW, World.alloc_heap_new _ _, rfl⟩
    case body =>
      rintro k a' W hkM ⟨hT, hj⟩ hW ⟨Bx, hBx, hX, rfl⟩
      obtain ⟨c0, c0', f0, f0'⟩ := pair_cells hT.2.1
      obtain ⟨c1, f1⟩ := one_cells hT.2.2.1
      obtain ⟨c2, f2⟩ := one_cells hT.2.2.2
      obtain ⟨x0, x1, _, _⟩ := pair_cells (x := .int .i64 ((Lx.spotAt s k).1 : Int)) (y := .int .i64 ((Lx.spotAt s k).2 : Int)) hX
      have HTT := Lib.hid hT; clear hT
      have qe := run_eql_sp
      have qg : ∀ (x y : Operand) (xs ys : Array Value) (w : World), (eqGuard .eql 32 x y (.agg xs) (.agg ys)).run Tryd.prog w = .ok () w := fun x y xs ys w => run_eqGuard_agg w _ _ x y xs ys (by kernel_rfl)
      cases hq : spEq (Lx.spotAt s k).1 (Lx.spotAt s k).2 l c
      · gi_wp2
        have hq' : Lx.isSpot s l c k = false := hq
        have hjo := hj.out
        rw [show s.size + 1 - k = (s.size + 1 - (k + 1)) + 1 by omega, Lx.atFrom_miss _ hq'] at hjo
        exact ⟨Below.refl _ _, HTT.out, hjo⟩
      · gi_wp2
        have hq' : Lx.isSpot s l c k = true := hq
        have hjo := hj.out
        rw [show s.size + 1 - k = (s.size + 1 - (k + 1)) + 1 by omega, Lx.atFrom_hit _ hq'] at hjo
        have T2 := HTT.out.fin1 (.int .i64 (k : Int)) (.int .i64 0)
        exact ⟨by rw [Below.heap_setCell _ _ _ _ (by simp; omega), Below.heap_setCell _ _ _ _ (by simp; omega)], by rw [Below.heap_setCell _ _ _ _ (by simp; omega), Below.heap_setCell _ _ _ _ (by simp; omega)], T2, hjo⟩
    case done =>
      rintro W ⟨hT, hj⟩ hK
      have HR : Hid (r = (0, 7)) := by
        have := hj.out
        rw [Nat.sub_self] at this
        exact this.symm
      obtain ⟨c1, f1⟩ := one_cells hT.2.2.1
      obtain ⟨c2, f2⟩ := one_cells hT.2.2.2
      have HTT := Lib.hid hT; clear hT
      have HK := Lib.hid hK; clear hK
      gi_wp2
      have T2 := HTT.out.fin1 (.int .i64 0) (.int .i64 7)
      have hK2 : ((W.setCell ⟨w.heap.size + 1, 0, none⟩ (.int .i64 0)).setCell ⟨w.heap.size + 1 + 1, 0, none⟩ (.int .i64 7)).heap[W0.heap.size]? = some (.deferred (some [])) := by
        rw [Below.heap_setCell _ _ _ _ (by simp; omega), Below.heap_setCell _ _ _ _ (by simp; omega)]; exact HK.out
      refine ⟨by simp, .inl ⟨_, _, rfl, run_takeDeferred hK2, ?_⟩⟩
      have T3 := T2.put W0.heap.size (.deferred none) (by omega)
      obtain ⟨x1, _⟩ := one_cells T3.2.2.1
      obtain ⟨x2, _⟩ := one_cells T3.2.2.2
      generalize World.putObj _ W0.heap.size (.deferred none) = WF at *
      exact ⟨atRes r, by rw [HR.out]; simp [atRes, results, Tryd.results26, go_sem, x1, x2], rfl, T3.1⟩
    case stop =>
      rintro k W hkM ⟨hT, hp⟩ hK
      have HTT := Lib.hid hT; clear hT
      have HK := Lib.hid hK; clear hK
      gi_wp2
      refine ⟨by simp, .inl ⟨_, _, rfl, run_takeDeferred HK.out, ?_⟩⟩
      have T3 := HTT.out.put W0.heap.size (.deferred none) (by omega)
      obtain ⟨x1, _⟩ := one_cells T3.2.2.1
      obtain ⟨x2, _⟩ := one_cells T3.2.2.2
      generalize World.putObj _ W0.heap.size (.deferred none) = WF at *
      exact ⟨atRes r, by rw [← hp.out]; simp [atRes, results, Tryd.results26, go_sem, x1, x2], rfl, T3.1⟩

theorem at_any (s : ByteArray) (l c : Int) (hs : s.size ≤ 281474976710656) (w : World) :
    Calls Tryd.prog 26 #[.string s, .agg #[.int .i64 l, .int .i64 c]] w fun e w' => e = .returned (atRes (Lx.atOf s l c)) ∧ Below w.heap.size w w' := callsIn_wide.1 (at_in s l c hs w)
end Go.Proofs.YtchkngabppmbkaaDoor
