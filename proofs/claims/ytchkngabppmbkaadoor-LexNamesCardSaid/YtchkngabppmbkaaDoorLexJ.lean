/-
  WALKS: lex.Notes; Tokens and Notes as plain contracts.
-/
import Derived.Test.YtchkngabppmbkaaDoorLexI
namespace Go.Proofs.YtchkngabppmbkaaDoor
open Go.RowKit Go.Shelf
attribute [local go_sem] Oper.semAt_some

theorem tokens_any (s : ByteArray) (hs : s.size ≤ 281474976710656) (w : World) (hG : GV w) :
    Calls Tryd.prog 19 #[.string s] w fun e w' => ∃ v, e = .returned (.tuple #[v, .int .i64 ((Lx.tokensOf s).2.1 : Int), .int .i64 ((Lx.tokensOf s).2.2 : Int)]) ∧
      w'.ownsRow w.heap.size 63 3 v (Lx.tokensOf s).1.length (toksCells (Lx.tokensOf s).1) ∧ Below w.heap.size w w' := callsIn_wide.1 (tokens_in s hs w hG)

def notes (l : List Lx.Item) : List Lx.Item := l.filter (fun x => !Lx.isTok x)
theorem notes_note (pre : List Lx.Item) {x : Lx.Item} (h : x.kind = 5) : notes (pre ++ [x]) = notes pre ++ [x] := by simp [notes, Lx.isTok, h]
theorem notes_tok (pre : List Lx.Item) {x : Lx.Item} (h : x.kind ≠ 5) : notes (pre ++ [x]) = notes pre := by simp [notes, Lx.isTok, h]
theorem notes_le (pre : List Lx.Item) : (notes pre).length ≤ pre.length := List.length_filter_le _ _

set_option maxRecDepth 100000 in
set_option maxHeartbeats 4000000 in
theorem notes_in (s : ByteArray) (hs : s.size ≤ 281474976710656) (w : World) (hG : GV w) :
    CallsIn Fence.wide 9 Tryd.prog 21 #[.string s] w fun e w' => ∃ v, e = .returned (.tuple #[v, .int .i64 ((Lx.notesOf s).2 : Int)]) ∧
      w'.ownsRow w.heap.size 63 3 v (Lx.notesOf s).1.length (toksCells (Lx.notesOf s).1) ∧ Below w.heap.size w w' := by
  obtain ⟨i0, hi, hz0, hz1, hz2⟩ := info_parts infoTok
  have HT := Lib.hid (fun W => textError_any s W (by omega))
  unfold Lx.notesOf
  refine callsIn_of_wp_marks Tryd.func21 rfl trivial ?_ rfl
  simp only [Tryd.ntmps21, List.size_toArray, List.length_cons, List.length_nil, Nat.reduceAdd, Nat.reduceSub, Array.replicate_succ, Array.replicate_zero, List.push_toArray, List.append_toArray, List.nil_append, List.cons_append]
  by_cases h0 : (Lx.textErr s).2 ≠ 0
  · rw [if_pos h0]
    generalize (Lx.textErr s).1 = p at *
    generalize (Lx.textErr s).2 = er at *
    have h0' : ((er : Int) != 0) = true := by rw [bne_iff_ne]; omega
    clear h0
    gi_wp2_with (refine ⟨trivial, ?_⟩; gi_at_call 49; refine (callsIn_wide.2 (HT.out _)).mono ?_; rintro e w1 ⟨rfl, hB1⟩)
    exact ⟨_, results_tmp2 rfl _ _ _, _, rfl, World.ownsRow_nil _ _ _ _, hB1⟩
  · have hsmall : s.size ≤ 2500 := by
      unfold Lx.textErr at h0
      split at h0
      · exact absurd (by decide) h0
      · omega
    rw [if_neg h0]
    obtain ⟨R, hR⟩ : ∃ R, (Lx.pieces s).filter (fun x => !Lx.isTok x) = R := ⟨_, rfl⟩
    rw [hR]
    have HR := Lib.hid hR; clear hR
    obtain ⟨p, er, hT⟩ : ∃ p er, Lx.textErr s = (p, er) := ⟨_, _, rfl⟩
    rw [hT] at h0 HT
    obtain rfl : er = 0 := by simpa using h0
    clear h0 hT
    gi_wp2_with (first
      | (refine ⟨trivial, ?_⟩; gi_at_call 49; refine (callsIn_wide.2 (HT.out _)).mono ?_; rintro e w1 ⟨rfl, hBw⟩)
      | (refine ⟨trivial, ?_⟩; gi_at_call 50; refine (pieces_in _ _ _).mono ?_; rintro e w' ⟨rfl, rfl⟩))
    have hsz1 := hBw.size
    have hG1 := hG.below hBw
    have hn2 := hG.1
    have bl := (Boxed.new w1 23 (.slice none 0 0)).alloc (.cells #[.string s] 9)
    have bs := Boxed.new (w1.alloc (.cells #[.slice none 0 0] 23)) 9 (.string s)
    rw [World.size_alloc] at bs
    have hB0 : Below w1.heap.size w1 ((w1.alloc (.cells #[.slice none 0 0] 23)).alloc (.cells #[.string s] 9)) := ((Below.refl _ _).alloc (Nat.le_refl _) _).alloc (by simp) _
    have hG0 := hG1.below hB0
    have hBw0 : Below w.heap.size w ((w1.alloc (.cells #[.slice none 0 0] 23)).alloc (.cells #[.string s] 9)) := hBw.trans (hB0.mono hBw.size)
    have hsz0 : ((w1.alloc (.cells #[.slice none 0 0] 23)).alloc (.cells #[.string s] 9)).heap.size = w1.heap.size + 2 := by simp
    generalize (w1.alloc (.cells #[.slice none 0 0] 23)).alloc (.cells #[.string s] 9) = W0 at *
    have hI0 : Inv w.heap.size (w1.heap.size + 1) w1.heap.size W0 := ⟨by omega, fun k hm => by
      rcases hm with rfl | ⟨a, n, c, hc, _⟩
      · exact ⟨by omega, by omega, _, _, _, bl⟩
      · rw [bl.cell] at hc; cases hc⟩
    clear hG hG1 hB0
    refine wpIn_rangeFunc_ownH (F := Fence.wide) rfl (by omega) (gf := 80) (lb := #[.pointer (some ⟨w1.heap.size + 1, 0, none⟩)]) rfl trivial (enters_of Tryd.func80 (by kernel_rfl) rfl)
      (pieces_stops (9 - 1) (by omega) (w1.heap.size + 1) w1.heap.size w.heap.size s hs hn2 W0 bs hI0 hG0) Kp.trans_ (Kp.put (by omega)) (Below.refl _ _) (fun _ => rfl)
      (fun pre W => ((∃ v, Boxed W w1.heap.size 23 v ∧ W.ownsRow w.heap.size 63 3 v (notes pre).length (toksCells (notes pre)) ∧ True) ∧ Boxed W (w1.heap.size + 1) 9 (.string s)) ∧ Below w.heap.size w W)
      (fun _ _ _ => False)
      (OwnFrom.and (OwnFrom.and (Own.from (holdsRow_own _ _ _ _ _ _ _ (fun _ _ => True)) _) (Own.from (boxed_own _ _ _) _)) (ownFrom_below (Nat.le_refl _) (by omega)))
      (fun _ _ _ _ _ hs _ _ => hs) ?at0
      (fun x a' W => ∃ Bx, w1.heap.size + 1 < Bx ∧ W.heap[Bx]? = some (.cells #[.int .u8 (x.kind : Int), .string x.text, .int .i64 (x.pos : Int)] 63 (0, 0)) ∧ a' = Act.mk #[Value.string s, undef, .slice none 0 0, .int .i64 0, Value.int IntKind.i64 ↑p, Value.int IntKind.i64 0, Value.pointer (some { block := w1.heap.size, off := 0 }), Value.pointer (some { block := Bx, off := 0 }),
          Value.tuple #[Value.int IntKind.i64 ↑p, Value.int IntKind.i64 0], Value.string s,
          Value.tuple #[Value.int IntKind.i64 ↑p, Value.int IntKind.i64 0], Value.int IntKind.i64 ↑p,
          Value.int IntKind.i64 0, Value.int IntKind.i64 0, Value.bool false, undef, Value.string s,
          Value.func (Fn.func 80) #[] #[Value.pointer (some { block := w1.heap.size + 1, off := 0 })], .agg #[.int .u8 (x.kind : Int), .string x.text, .int .i64 (x.pos : Int)], Value.int IntKind.i64 (x.err : Int),
          undef, undef, undef, undef, undef, undef, undef, undef] []) ?ownax ?assign ?body ?done ?stop
    case at0 => exact ⟨⟨⟨_, bl, World.ownsRow_nil _ _ _ _, trivial⟩, bs⟩, hBw0⟩
    case ownax =>
      rintro x a' _ X Y row ⟨Bx, h1, h2, h3⟩ hg hr
      refine ⟨Bx, h1, (hg.block Bx (lt_of_heap h2) (fun e => ?_)).trans h2, h3⟩
      obtain ⟨o, ho, hc⟩ := (hr Bx e.symm).2
      rw [h2] at ho; cases ho; cases hc
    case assign =>
      rintro l pre x W K ⟨⟨⟨v, hv, hrow, _⟩, hbs⟩, hB⟩ hK
      dsimp only [encItem, tokV]
      gi_wp2
      exact hK _ _ ((KeepsOthers.alloc _ _).from _) (Kp.of_below hv.lt ((Below.refl _ W).alloc (Nat.le_refl _) _)) ⟨⟨⟨v, hv.alloc _, hrow.alloc _, trivial⟩, hbs.alloc _⟩, hB.alloc hB.size _⟩ ⟨W.heap.size, hbs.lt, World.alloc_heap_new _ _, rfl⟩
    case body =>
      rintro l pre x a' W hl ⟨r, hr⟩ ⟨⟨⟨v, hv, hrow, _⟩, hbs⟩, hB⟩ ⟨Bx, hBx, hX, rfl⟩ hlt
      obtain ⟨ao, cap, rfl⟩ := own_form hrow
      have hc := hv.cell
      have x0 : W.cell? ⟨Bx, 0, none⟩ = some (.int .u8 (x.kind : Int)) := by simp [World.cell?, hX]
      have x1 : W.cell? ⟨Bx, 1, none⟩ = some (.string x.text) := by simp [World.cell?, hX]
      have x2 : W.cell? ⟨Bx, 2, none⟩ = some (.int .i64 (x.pos : Int)) := by simp [World.cell?, hX]
      have HRW := Lib.hid hrow; clear hrow hX hr
      by_cases h5 : x.kind = 5
      · have e5 : ((x.kind : Int) == 5) = true := by rw [beq_iff_eq]; omega
        have H5 := Lib.hid h5; clear h5
        have hlp := notes_le pre
        have hps := Lx.pieces_length s
        have hszW := hB.size
        gi_wp2_with (gi_at_builtin; go_loud (refine wpListIn_append_own_at _ rfl _ _ 23 rfl w.heap.size 63 i0 (.agg #[.int .u8 0, .string ⟨#[]⟩, .int .i64 0]) 3 32 Tryd.underlying23 hi hz0 hz1 hz2 rfl (by decide) _ _ _ rfl (HRW.out.alloc _) ⟨W.heap.size, 0, none⟩ 1 1 [.int .u8 (x.kind : Int), .string x.text, .int .i64 (x.pos : Int)] rfl rfl (cell_three_new _ _ _ _ _) (by simp [Value.oneCell']) (by unfold maxLen; omega) (by omega) (by simp; omega) ?_); intro v' w2 hown' hgrow _ hat; obtain ⟨g', cap', rfl⟩ := ownsRow_succ hown'; obtain ⟨hv1, hv2, hr2, hk2, hb2'⟩ := hv.appended (by decide) HRW.out hszW (by omega) hown' hgrow; have hkp := Kp.appended (Bs := w1.heap.size + 1) hszW (by omega) (by omega) (by decide) (by decide) hv HRW.out hbs hown' hgrow hat; have hc1 := hv1.cell; have hf1 := hv1.frozen; have n5 := ((hbs.alloc _).kept hgrow (hbs.not_row (by decide) HRW.out)).other (B' := w1.heap.size) (by omega) (.slice (some ⟨g', 0, none⟩) ((notes pre).length + 1) cap'))
        exact ⟨hk2.from _, hkp, ⟨⟨⟨_, hv2, by rw [notes_note pre H5.out, toksCells_snoc, List.length_append]; exact hr2, trivial⟩, n5⟩, hB.trans hb2'⟩⟩
      · have e5 : ((x.kind : Int) == 5) = false := by rw [beq_eq_false_iff_ne]; omega
        have H5 := Lib.hid h5; clear h5
        gi_wp2
        exact ⟨KeepsFrom.refl _ _, Kp.refl_ _ _ _ _, ⟨⟨⟨_, hv, by rw [notes_tok pre H5.out]; exact HRW.out, trivial⟩, hbs⟩, hB⟩⟩
    case done =>
      rintro D ys W hD rfl ⟨⟨⟨v, hv, hrow, _⟩, hbs⟩, hB⟩ hK
      obtain ⟨ao, cap, rfl⟩ := own_form hrow
      have hc := hv.cell
      have r4 := ownsRow_putObj hrow (.deferred none) hK rfl
      have hB4 := hB.trans (belowK_b (w := w) (Nat.le_refl _) _ D _ (.deferred none) (by omega) hK rfl rfl)
      have HK := Lib.hid hK; have H4 := Lib.hid r4; clear hK hrow r4
      gi_wp2
      refine ⟨by simp, .inl ⟨_, _, rfl, run_takeDeferred HK.out, ?_⟩⟩
      have hRv : notes (Lx.pieces s) = R := HR.out
      exact ⟨_, results_tmp2 rfl _ _ _, _, rfl, by rw [← hRv]; exact H4.out, hB4⟩
    case stop =>
      rintro D c pre W _ _ h _
      exact h.elim

theorem notes_any (s : ByteArray) (hs : s.size ≤ 281474976710656) (w : World) (hG : GV w) :
    Calls Tryd.prog 21 #[.string s] w fun e w' => ∃ v, e = .returned (.tuple #[v, .int .i64 ((Lx.notesOf s).2 : Int)]) ∧
      w'.ownsRow w.heap.size 63 3 v (Lx.notesOf s).1.length (toksCells (Lx.notesOf s).1) ∧ Below w.heap.size w w' := callsIn_wide.1 (notes_in s hs w hG)
end Go.Proofs.YtchkngabppmbkaaDoor
