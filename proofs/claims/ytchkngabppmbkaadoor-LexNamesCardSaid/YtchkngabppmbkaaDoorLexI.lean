/-
  WALKS: lex.Tokens, lex.Notes.
-/
import Derived.Test.YtchkngabppmbkaaDoorLexH
import Derived.Test.YtchkngabppmbkaaDoorSpecC
import Derived.Maps.OwnIn
namespace Go.Proofs.YtchkngabppmbkaaDoor
open Go.RowKit Go.Shelf
attribute [local go_sem] Oper.semAt_some

set_option maxRecDepth 100000 in
set_option maxHeartbeats 1000000 in
theorem pieces_in (n : Nat) (s : ByteArray) (w : World) :
    CallsIn Fence.wide n Tryd.prog 50 #[.string s] w fun e w' => e = .returned (.func (.func 80) #[] #[.pointer (some ⟨w.heap.size, 0, none⟩)]) ∧ w' = w.alloc (.cells #[.string s] 9) := by
  refine callsIn_of_wp Tryd.func50 rfl trivial ?_ rfl
  simp only [Tryd.ntmps50, List.size_toArray, List.length_cons, List.length_nil, Nat.reduceAdd, Nat.reduceSub, Array.replicate_succ, Array.replicate_zero, List.push_toArray, List.append_toArray, List.nil_append, List.cons_append]
  gi_wp2
  go_ret
  exact ⟨rfl, rfl⟩

theorem boxed_below {A B : World} {b : Nat} {t : TypeId} {v : Value} (h : Boxed A b t v) (hb : Below A.heap.size A B) : Boxed B b t v := (hb.block _ h.lt).trans h

theorem pieces_stops (n : Nat) (hn : 1 ≤ n) (Bs Bl n₀ : Nat) (s : ByteArray) (hs : s.size ≤ 281474976710656) (hn₀ : 2 < n₀) (w0 : World) (hB : Boxed w0 Bs 9 (.string s)) (hI : Inv n₀ Bs Bl w0) (hG : GV w0) :
    SeqStopsK Fence.wide n Tryd.prog 80 #[.pointer (some ⟨Bs, 0, none⟩)] encItem (Kp n₀ Bs Bl) (fun ys => ys = Lx.pieces s) (fun pre => pre <+: Lx.pieces s) (Lx.pieces s).length w0 :=
  fun l J Jx W hW hJ _ hY h0 => pieces1 n hn l Bs Bl n₀ s hs hn₀ J Jx W hJ hY (boxed_below hB hW) (hI.below hW) (hG.below hW) h0

def tokCells (x : Lx.Item) : List Value := [.int .u8 (x.kind : Int), .string x.text, .int .i64 (x.pos : Int)]
def toksCells (l : List Lx.Item) : List Value := l.flatMap tokCells
theorem toksCells_length (l : List Lx.Item) : (toksCells l).length = l.length * 3 := by
  induction l with
  | nil => rfl
  | cons x l ih => simp [toksCells, tokCells] at ih ⊢; omega

theorem infoTok : (Tryd.prog.info? 63).map (fun i => (i.zero, i.size, i.bytes)) = some (some (.agg #[.int .u8 0, .string ⟨#[]⟩, .int .i64 0]), 3, 32) := by kernel_rfl

theorem cell_three_new (W : World) (a b c : Value) (t : TypeId) : ∀ j u, [a, b, c][j]? = some u → (W.alloc (.cells #[a, b, c] t)).cell? ((⟨W.heap.size, 0, none⟩ : Addr).add j) = some u := by
  intro j u hu
  have h : (⟨W.heap.size, 0, none⟩ : Addr).add j = ⟨W.heap.size, j, none⟩ := by unfold Addr.add; split <;> simp_all
  rw [h, (World.cell?_of_block rfl : (W.alloc (.cells #[a, b, c] t)).cell? ⟨W.heap.size, j, none⟩ = _)]
  unfold World.cell?
  rw [World.alloc_heap_new]
  simpa using hu

theorem Kp.refl_ (n₀ Bs Bl : Nat) (W : World) : Kp n₀ Bs Bl W W := ⟨Nat.le_refl _, fun _ _ h _ _ => h, fun _ h => .inl h, fun h => h⟩
theorem own_slice {v : Value} {k : Nat} (h : v.ownBlock = some k) : ∃ a n c, v = .slice (some a) n c ∧ k = a.block := by
  unfold Value.ownBlock at h
  split at h
  · rename_i a n c; exact ⟨a, n, c, rfl, by simpa using h.symm⟩
  · cases h

theorem Kp.appended {W w1 : World} {n₀ Bs Bl : Nat} {tb te ts : TypeId} {size : Nat} {v v' sv : Value} {k m : Nat} {xs ys : List Value} {tmp : Obj} (hnW : n₀ ≤ W.heap.size) (hnB : n₀ ≤ Bl) (hne : Bl ≠ Bs) (hbe : tb ≠ te) (hse : ts ≠ te)
    (hv : Boxed W Bl tb v) (hrow : W.ownsRow n₀ te size v k xs) (hB : Boxed W Bs ts sv) (hown' : w1.ownsRow n₀ te size v' m ys) (hg : (W.alloc tmp).grownBy w1 v.ownBlock)
    (hat : v'.ownBlock = v.ownBlock ∨ v'.ownBlock = some (W.alloc tmp).heap.size) : Kp n₀ Bs Bl W (w1.setCell ⟨Bl, 0, none⟩ v') := by
  obtain ⟨h1, h2, h3, _, _⟩ := hv.appended hbe hrow hnW hnB hown' hg
  have hB1 : Boxed w1 Bs ts sv := (hB.alloc tmp).kept hg (hB.not_row hse hrow)
  have hsz : W.heap.size ≤ w1.heap.size := Nat.le_trans (by simp) hg.size
  refine ⟨by simpa [World.setCell] using hsz, fun j o ho _ hm => ?_, fun j hm => ?_, fun hi => ⟨h2.lt, fun j hm => ?_⟩⟩
  · have hj := lt_of_heap ho
    rw [Below.heap_setCell _ _ _ _ (fun e => hm (.inl e)), hg.block j (by simp; omega) (fun e => by
      obtain ⟨a, n, c, rfl, hb⟩ := own_slice e.symm
      exact hm (.inr ⟨a, n, c, hv.cell, hb⟩)), Below.heap_alloc _ _ _ hj]
    exact ho
  · rcases hm with hm | ⟨a, n, c, hc, hb⟩
    · exact .inl (.inl hm)
    · rw [h2.cell] at hc
      cases hc
      have ho : Value.ownBlock (.slice (some a) n c) = some j := by rw [hb]; rfl
      rcases hat with hat | hat
      · rw [ho] at hat
        obtain ⟨a', n', c', rfl, hb'⟩ := own_slice hat.symm
        exact .inl (.inr ⟨a', n', c', hv.cell, hb'⟩)
      · rw [ho] at hat
        have : j = (W.alloc tmp).heap.size := by injection hat
        exact .inr (by rw [this]; simp)
  · rcases hm with hm | ⟨a, n, c, hc, hb⟩
    · subst hm; exact ⟨hne, hnB, _, _, _, h2⟩
    · rw [h2.cell] at hc
      cases hc
      have ho : Value.ownBlock (.slice (some a) n c) = some j := by rw [hb]; rfl
      obtain ⟨hb1, _⟩ := h3.lt j ho
      rcases h3.2 with ⟨h4, _⟩ | ⟨g, cap, cur, h4, _, h5, _⟩
      · cases h4
      · have ha : a = ⟨g, 0, none⟩ := by injection h4 with h4 _ _; injection h4
        have hjg : j = g := by rw [hb, ha]
        subst hjg
        refine ⟨fun e => ?_, hb1, _, _, _, h5⟩
        have hB2 : Boxed (w1.setCell ⟨Bl, 0, none⟩ (.slice (some a) n c)) Bs ts sv := (Below.heap_setCell _ _ _ _ (fun e => hne e.symm)).trans hB1
        rw [← e] at hB2
        have := (show _ = _ from hB2).symm.trans h5
        simp at this
        exact hse this.2

theorem Kp.of_below {n₀ Bs Bl : Nat} {W W' : World} (hb : Bl < W.heap.size) (h : Below W.heap.size W W') : Kp n₀ Bs Bl W W' :=
  ⟨h.size, fun k _o ho _ _ => (h.block k (lt_of_heap ho)).trans ho, fun _k hm => .inl (hm.below hb h), fun hi => hi.below h⟩

theorem own_form {w : World} {base : Nat} {e : TypeId} {size : Nat} {v : Value} {n : Nat} {xs : List Value} (h : w.ownsRow base e size v n xs) : ∃ ao c, v = .slice ao n c := by
  rcases h.2 with ⟨rfl, rfl⟩ | ⟨g, cap, cur, rfl, _⟩
  · exact ⟨_, _, rfl⟩
  · exact ⟨_, _, rfl⟩

def toks (l : List Lx.Item) : List Lx.Item := l.filter Lx.isTok
theorem toks_note (pre : List Lx.Item) {x : Lx.Item} (h : x.kind = 5) : toks (pre ++ [x]) = toks pre := by simp [toks, Lx.isTok, h]
theorem toks_tok (pre : List Lx.Item) {x : Lx.Item} (h : x.kind ≠ 5) : toks (pre ++ [x]) = toks pre ++ [x] := by simp [toks, Lx.isTok, h]
theorem toks_le (pre : List Lx.Item) : (toks pre).length ≤ pre.length := List.length_filter_le _ _
theorem toksCells_snoc (l : List Lx.Item) (x : Lx.Item) : toksCells (l ++ [x]) = toksCells l ++ tokCells x := by simp [toksCells]
theorem scan_snoc {pre : List Lx.Item} {x : Lx.Item} {acc : List Lx.Item} {R : List Lx.Item → List Lx.Item × Nat × Nat} (h : ∀ rest, Lx.tokScan [] (pre ++ rest) = Lx.tokScan acc rest) (hx : ∀ rest, Lx.tokScan acc (x :: rest) = R rest) (rest : List Lx.Item) : Lx.tokScan [] ((pre ++ [x]) ++ rest) = R rest := by
  rw [List.append_assoc, h]; exact hx rest

set_option maxRecDepth 100000 in
set_option maxHeartbeats 4000000 in
theorem tokens_in (s : ByteArray) (hs : s.size ≤ 281474976710656) (w : World) (hG : GV w) :
    CallsIn Fence.wide 9 Tryd.prog 19 #[.string s] w fun e w' => ∃ v, e = .returned (.tuple #[v, .int .i64 ((Lx.tokensOf s).2.1 : Int), .int .i64 ((Lx.tokensOf s).2.2 : Int)]) ∧
      w'.ownsRow w.heap.size 63 3 v (Lx.tokensOf s).1.length (toksCells (Lx.tokensOf s).1) ∧ Below w.heap.size w w' := by
  obtain ⟨i0, hi, hz0, hz1, hz2⟩ := info_parts infoTok
  have HT := Lib.hid (fun W => textError_any s W (by omega))
  unfold Lx.tokensOf
  refine callsIn_of_wp_marks Tryd.func19 rfl trivial ?_ rfl
  simp only [Tryd.ntmps19, List.size_toArray, List.length_cons, List.length_nil, Nat.reduceAdd, Nat.reduceSub, Array.replicate_succ, Array.replicate_zero, List.push_toArray, List.append_toArray, List.nil_append, List.cons_append]
  by_cases h0 : (Lx.textErr s).2 ≠ 0
  · rw [if_pos h0]
    generalize (Lx.textErr s).1 = p at *
    generalize (Lx.textErr s).2 = er at *
    have h0' : ((er : Int) != 0) = true := by rw [bne_iff_ne]; omega
    clear h0
    gi_wp2_with (refine ⟨trivial, ?_⟩; gi_at_call 49; refine (callsIn_wide.2 (HT.out _)).mono ?_; rintro e w1 ⟨rfl, hB1⟩; have b2 := boxed_below (((Boxed.new w 23 (.slice none 0 0)).alloc (.cells #[.int .i64 0] 3)).alloc (.cells #[.int .i64 0] 24)) hB1; have b3 := boxed_below ((Boxed.new (w.alloc (.cells #[.slice none 0 0] 23)) 3 (.int .i64 0)).alloc (.cells #[.int .i64 0] 24)) hB1; have b4 := boxed_below (Boxed.new ((w.alloc (.cells #[.slice none 0 0] 23)).alloc (.cells #[.int .i64 0] 3)) 24 (.int .i64 0)) hB1; simp only [World.size_alloc] at b3 b4; have c2 := b2.cell; have c3 := b3.cell; have c4 := b4.cell; have f2 := b2.frozen; have f3 := b3.frozen; have f4 := b4.frozen)
    have hBw : Below w.heap.size w w1 := Below.trans (by repeat (first | assumption | exact Below.refl _ _ | refine Below.drew ?_ | refine Below.setCell ?_ (by first | omega | (simp; omega) | simp) _ | refine below_drewN ?_ _ | refine Below.alloc ?_ (by first | omega | (simp; omega) | simp) _)) (hB1.mono (by simp; omega))
    refine ⟨.tuple #[.slice none 0 0, .int .i64 (p : Int), .int .i64 (er : Int)], by simp [results, Tryd.results19, go_sem, c2, c3, c4], _, rfl, World.ownsRow_nil _ _ _ _, ?_⟩
    repeat (first | assumption | exact Below.refl _ _ | refine Below.drew ?_ | refine Below.setCell ?_ (by first | omega | (simp; omega) | simp) _ | refine below_drewN ?_ _ | refine Below.alloc ?_ (by first | omega | (simp; omega) | simp) _)
  · have hsmall : s.size ≤ 2500 := by
      unfold Lx.textErr at h0
      split at h0
      · exact absurd (by decide) h0
      · omega
    rw [if_neg h0]
    obtain ⟨R, hR⟩ : ∃ R, Lx.tokScan [] (Lx.pieces s) = R := ⟨_, rfl⟩
    rw [hR]
    have HR := Lib.hid hR; clear hR
    obtain ⟨p, er, hT⟩ : ∃ p er, Lx.textErr s = (p, er) := ⟨_, _, rfl⟩
    rw [hT] at h0 HT
    obtain rfl : er = 0 := by simpa using h0
    clear h0 hT
    gi_wp2_with (first
      | (refine ⟨trivial, ?_⟩; gi_at_call 49; refine (callsIn_wide.2 (HT.out _)).mono ?_; rintro e w1 ⟨rfl, hB1⟩; have b2 := boxed_below (((Boxed.new w 23 (.slice none 0 0)).alloc (.cells #[.int .i64 0] 3)).alloc (.cells #[.int .i64 0] 24)) hB1; have b3 := boxed_below ((Boxed.new (w.alloc (.cells #[.slice none 0 0] 23)) 3 (.int .i64 0)).alloc (.cells #[.int .i64 0] 24)) hB1; have b4 := boxed_below (Boxed.new ((w.alloc (.cells #[.slice none 0 0] 23)).alloc (.cells #[.int .i64 0] 3)) 24 (.int .i64 0)) hB1; simp only [World.size_alloc] at b3 b4)
      | (refine ⟨trivial, ?_⟩; gi_at_call 50; refine (pieces_in _ _ _).mono ?_; rintro e w' ⟨rfl, rfl⟩))
    have hBw : Below w.heap.size w w1 := Below.trans (by repeat (first | assumption | exact Below.refl _ _ | refine Below.drew ?_ | refine Below.setCell ?_ (by first | omega | (simp; omega) | simp) _ | refine below_drewN ?_ _ | refine Below.alloc ?_ (by first | omega | (simp; omega) | simp) _)) (hB1.mono (by simp; omega))
    have hsz1 : w.heap.size + 3 ≤ w1.heap.size := by have := hB1.size; simp at this; omega
    have hG1 := hG.below hBw
    have hn2 := hG.1
    have bl := (Boxed.new w1 23 (.slice none 0 0)).alloc (.cells #[.string s] 9)
    have bs := Boxed.new (w1.alloc (.cells #[.slice none 0 0] 23)) 9 (.string s)
    rw [World.size_alloc] at bs
    have b2 := (b2.alloc (.cells #[.slice none 0 0] 23)).alloc (.cells #[.string s] 9)
    have b3 := (b3.alloc (.cells #[.slice none 0 0] 23)).alloc (.cells #[.string s] 9)
    have b4 := (b4.alloc (.cells #[.slice none 0 0] 23)).alloc (.cells #[.string s] 9)
    have hB0 : Below w1.heap.size w1 ((w1.alloc (.cells #[.slice none 0 0] 23)).alloc (.cells #[.string s] 9)) := ((Below.refl _ _).alloc (Nat.le_refl _) _).alloc (by simp) _
    have hG0 := hG1.below hB0
    have hBw0 : Below w.heap.size w ((w1.alloc (.cells #[.slice none 0 0] 23)).alloc (.cells #[.string s] 9)) := hBw.trans (hB0.mono hBw.size)
    have hsz0 : ((w1.alloc (.cells #[.slice none 0 0] 23)).alloc (.cells #[.string s] 9)).heap.size = w1.heap.size + 2 := by simp
    generalize (w1.alloc (.cells #[.slice none 0 0] 23)).alloc (.cells #[.string s] 9) = W0 at *
    have hI0 : Inv w.heap.size (w1.heap.size + 1) w1.heap.size W0 := ⟨by omega, fun k hm => by
      rcases hm with rfl | ⟨a, n, c, hc, _⟩
      · exact ⟨by omega, by omega, _, _, _, bl⟩
      · rw [bl.cell] at hc; cases hc⟩
    clear hG hG1 hB1 hB0
    refine wpIn_rangeFunc_ownH (F := Fence.wide) rfl (by omega) (gf := 80) (lb := #[.pointer (some ⟨w1.heap.size + 1, 0, none⟩)]) rfl trivial (enters_of Tryd.func80 (by kernel_rfl) rfl)
      (pieces_stops (9 - 1) (by omega) (w1.heap.size + 1) w1.heap.size w.heap.size s hs hn2 W0 bs hI0 hG0) Kp.trans_ (Kp.put (by omega)) (Below.refl _ _) (fun _ => rfl)
      (fun pre W => (((∃ v, Boxed W w1.heap.size 23 v ∧ W.ownsRow w.heap.size 63 3 v (toks pre).length (toksCells (toks pre)) ∧ Hid (∀ rest, Lx.tokScan [] (pre ++ rest) = Lx.tokScan (toks pre) rest)) ∧
        (Boxed W w.heap.size 23 (.slice none 0 0) ∧ Boxed W (w.heap.size + 1) 3 (.int .i64 0)) ∧ (Boxed W (w.heap.size + 1 + 1) 24 (.int .i64 0) ∧ Boxed W (w1.heap.size + 1) 9 (.string s))) ∧ Below w.heap.size w W))
      (fun c pre W => (∃ q : Nat × Nat, (Boxed W w.heap.size 23 (.slice none 0 0) ∧ Boxed W (w.heap.size + 1) 3 (.int .i64 (q.1 : Int)) ∧ Boxed W (w.heap.size + 1 + 1) 24 (.int .i64 (q.2 : Int))) ∧ (c = .ret ∧ ∀ rest, Lx.tokScan [] (pre ++ rest) = ([], q.1, q.2))) ∧ Below w.heap.size w W)
      (OwnFrom.and (OwnFrom.and (Own.from (holdsRow_own _ _ _ _ _ _ _ _) _) (OwnFrom.and (OwnFrom.and (Own.from (boxed_own _ _ _) _) (Own.from (boxed_own _ _ _) _)) (OwnFrom.and (Own.from (boxed_own _ _ _) _) (Own.from (boxed_own _ _ _) _)))) (ownFrom_below (Nat.le_refl _) (by omega)))
      ?ownx ?at0
      (fun x a' W => ∃ Bx, w1.heap.size + 1 < Bx ∧ W.heap[Bx]? = some (.cells #[.int .u8 (x.kind : Int), .string x.text, .int .i64 (x.pos : Int)] 63 (0, 0)) ∧ a' = Act.mk #[Value.string s, undef, Value.pointer (some { block := w.heap.size, off := 0 }),
          Value.pointer (some { block := w.heap.size + 1, off := 0 }),
          Value.pointer (some { block := w.heap.size + 1 + 1, off := 0 }), Value.int IntKind.i64 ↑p,
          Value.int IntKind.i64 0, Value.pointer (some { block := w1.heap.size, off := 0 }), Value.pointer (some { block := Bx, off := 0 }), Value.int IntKind.i64 (x.err : Int),
          Value.tuple #[Value.int IntKind.i64 ↑p, Value.int IntKind.i64 0], Value.string s,
          Value.tuple #[Value.int IntKind.i64 ↑p, Value.int IntKind.i64 0], Value.int IntKind.i64 ↑p,
          Value.int IntKind.i64 0, Value.int IntKind.i64 0, Value.bool false, undef, undef, Value.string s,
          Value.func (Fn.func 80) #[] #[Value.pointer (some { block := w1.heap.size + 1, off := 0 })], .agg #[.int .u8 (x.kind : Int), .string x.text, .int .i64 (x.pos : Int)], Value.int IntKind.i64 (x.err : Int),
          undef, undef, undef, undef, undef, undef, undef, undef, undef, undef, undef, undef, undef, undef, undef,
          undef, undef, undef, undef, undef] []) ?ownax ?assign ?body ?done ?stop
    case ownx =>
      rintro c pre X Y row ⟨⟨q, ⟨h1, h2, h3⟩, h4⟩, hB⟩ hg hr
      exact ⟨⟨q, ⟨boxed_own _ _ (fun (_ : Unit) => Value.slice none 0 0) () X Y row h1 hg (fun r e => (hr r e).2), boxed_own _ _ (fun (_ : Unit) => Value.int .i64 (q.1 : Int)) () X Y row h2 hg (fun r e => (hr r e).2),
        boxed_own _ _ (fun (_ : Unit) => Value.int .i64 (q.2 : Int)) () X Y row h3 hg (fun r e => (hr r e).2)⟩, h4⟩, hB.grown hg hB.size (fun k e => by have := (hr k e).1; omega)⟩
    case at0 => exact ⟨⟨⟨_, bl, World.ownsRow_nil _ _ _ _, fun _ => rfl⟩, ⟨b2, b3⟩, ⟨b4, bs⟩⟩, hBw0⟩
    case ownax =>
      rintro x a' _ X Y row ⟨Bx, h1, h2, h3⟩ hg hr
      refine ⟨Bx, h1, (hg.block Bx (lt_of_heap h2) (fun e => ?_)).trans h2, h3⟩
      obtain ⟨o, ho, hc⟩ := (hr Bx e.symm).2
      rw [h2] at ho; cases ho; cases hc
    case assign =>
      rintro l pre x W K ⟨⟨⟨v, hv, hrow, hsc⟩, ⟨hb2, hb3⟩, ⟨hb4, hbs⟩⟩, hB⟩ hK
      dsimp only [encItem, tokV]
      gi_wp2
      exact hK _ _ ((KeepsOthers.alloc _ _).from _) (Kp.of_below hv.lt ((Below.refl _ W).alloc (Nat.le_refl _) _)) ⟨⟨⟨v, hv.alloc _, hrow.alloc _, hsc⟩, ⟨hb2.alloc _, hb3.alloc _⟩, ⟨hb4.alloc _, hbs.alloc _⟩⟩, hB.alloc hB.size _⟩ ⟨W.heap.size, hbs.lt, World.alloc_heap_new _ _, rfl⟩
    case body =>
      rintro l pre x a' W hl ⟨r, hr⟩ ⟨⟨⟨v, hv, hrow, hsc⟩, ⟨hb2, hb3⟩, ⟨hb4, hbs⟩⟩, hB⟩ ⟨Bx, hBx, hX, rfl⟩ hlt
      obtain ⟨ao, cap, rfl⟩ := own_form hrow
      have hc := hv.cell
      have c2 := hb2.cell; have c3 := hb3.cell; have c4 := hb4.cell
      have f2 := hb2.frozen; have f3 := hb3.frozen; have f4 := hb4.frozen
      have x0 : W.cell? ⟨Bx, 0, none⟩ = some (.int .u8 (x.kind : Int)) := by simp [World.cell?, hX]
      have x1 : W.cell? ⟨Bx, 1, none⟩ = some (.string x.text) := by simp [World.cell?, hX]
      have x2 : W.cell? ⟨Bx, 2, none⟩ = some (.int .i64 (x.pos : Int)) := by simp [World.cell?, hX]
      have HRW := Lib.hid hrow; clear hrow hX hr
      by_cases h5 : x.kind = 5
      · have e5 : ((x.kind : Int) == 5) = true := by rw [beq_iff_eq]; omega
        have H5 := Lib.hid h5; clear h5
        gi_wp2
        exact ⟨KeepsFrom.refl _ _, Kp.refl_ _ _ _ _, ⟨⟨⟨_, hv, by rw [toks_note pre H5.out]; exact HRW.out, by rw [toks_note pre H5.out]; exact scan_snoc hsc.out (fun rest => Lx.scan_note rest H5.out)⟩, ⟨hb2, hb3⟩, ⟨hb4, hbs⟩⟩, hB⟩⟩
      · have e5 : ((x.kind : Int) == 5) = false := by rw [beq_eq_false_iff_ne]; omega
        have H5 := Lib.hid h5; clear h5
        by_cases h0 : x.err = 0
        · by_cases h9 : (toks pre).length = 900
          · have e0 : ((x.err : Int) == 0) = true := by rw [beq_iff_eq]; omega
            have e9 : (((toks pre).length : Int) == 900) = true := by rw [beq_iff_eq]; omega
            have H0 := Lib.hid h0; clear h0
            have H9 := Lib.hid h9; clear h9
            have hKO := (((KeepsOthers.setCell W ⟨w.heap.size, 0, none⟩ (.slice none 0 0)).trans (KeepsOthers.setCell _ ⟨w.heap.size + 1, 0, none⟩ (.int .i64 (x.pos : Int)))).trans (KeepsOthers.setCell _ ⟨w.heap.size + 1 + 1, 0, none⟩ (.int .i64 5))).trans (KeepsOthers.drew _)
            have d2 := (((hb2.set (.slice none 0 0)).other (B' := w.heap.size + 1) (by omega) (.int .i64 (x.pos : Int))).other (B' := w.heap.size + 1 + 1) (by omega) (.int .i64 5))
            have d3 := ((((hb3.other (B' := w.heap.size) (by omega) (.slice none 0 0))).set (.int .i64 (x.pos : Int))).other (B' := w.heap.size + 1 + 1) (by omega) (.int .i64 5))
            have d4 := (((hb4.other (B' := w.heap.size) (by omega) (.slice none 0 0)).other (B' := w.heap.size + 1) (by omega) (.int .i64 (x.pos : Int))).set (.int .i64 5))
            have hB3 := ((hB.setCell (p := ⟨w.heap.size, 0, none⟩) (Nat.le_refl _) (.slice none 0 0)).setCell (p := ⟨w.heap.size + 1, 0, none⟩) (by simp) (.int .i64 (x.pos : Int))).setCell (p := ⟨w.heap.size + 1 + 1, 0, none⟩) (by simp; omega) (.int .i64 5)
            have hmx : Tryd.prog.follows .mixedOrders = true := by kernel_rfl
            gi_wp2
            gi_region_with_o (fail)
            all_goals gi_wp2
            all_goals exact ⟨hKO.from _, ⟨⟨(x.pos, 5), ⟨d2, d3, d4⟩, rfl, scan_snoc hsc.out (fun rest => Lx.scan_full rest H5.out H0.out H9.out)⟩, hB3.drew⟩⟩
          · have e0 : ((x.err : Int) == 0) = true := by rw [beq_iff_eq]; omega
            have e1 : ((x.err : Int) != 0) = false := by rw [bne_eq_false_iff_eq]; omega
            have e9 : (((toks pre).length : Int) == 900) = false := by rw [beq_eq_false_iff_ne]; omega
            have H0 := Lib.hid h0; clear h0
            have H9 := Lib.hid h9; clear h9
            have hlp := toks_le pre
            have hps := Lx.pieces_length s
            have hszW := hB.size
            gi_wp2_with (gi_at_builtin; go_loud (refine wpListIn_append_own_at _ rfl _ _ 23 rfl w.heap.size 63 i0 (.agg #[.int .u8 0, .string ⟨#[]⟩, .int .i64 0]) 3 32 Tryd.underlying23 hi hz0 hz1 hz2 rfl (by decide) _ _ _ rfl (HRW.out.alloc _) ⟨W.heap.size, 0, none⟩ 1 1 [.int .u8 (x.kind : Int), .string x.text, .int .i64 (x.pos : Int)] rfl rfl (cell_three_new _ _ _ _ _) (by simp [Value.oneCell']) (by unfold maxLen; omega) (by omega) (by simp; omega) ?_); intro v' w2 hown' hgrow _ hat; obtain ⟨g', cap', rfl⟩ := ownsRow_succ hown'; obtain ⟨hv1, hv2, hr2, hk2, hb2'⟩ := hv.appended (by decide) HRW.out hszW (by omega) hown' hgrow; have hkp := Kp.appended (Bs := w1.heap.size + 1) hszW (by omega) (by omega) (by decide) (by decide) hv HRW.out hbs hown' hgrow hat; have hc1 := hv1.cell; have hf1 := hv1.frozen; have n2 := ((hb2.alloc _).kept hgrow (hb2.not_row (by decide) HRW.out)).other (B' := w1.heap.size) (by omega) (.slice (some ⟨g', 0, none⟩) ((toks pre).length + 1) cap'); have n3 := ((hb3.alloc _).kept hgrow (hb3.not_row (by decide) HRW.out)).other (B' := w1.heap.size) (by omega) (.slice (some ⟨g', 0, none⟩) ((toks pre).length + 1) cap'); have n4 := ((hb4.alloc _).kept hgrow (hb4.not_row (by decide) HRW.out)).other (B' := w1.heap.size) (by omega) (.slice (some ⟨g', 0, none⟩) ((toks pre).length + 1) cap'); have n5 := ((hbs.alloc _).kept hgrow (hbs.not_row (by decide) HRW.out)).other (B' := w1.heap.size) (by omega) (.slice (some ⟨g', 0, none⟩) ((toks pre).length + 1) cap'))
            exact ⟨hk2.from _, hkp, ⟨⟨⟨_, hv2, by rw [toks_tok pre H5.out, toksCells_snoc, List.length_append]; exact hr2, by rw [toks_tok pre H5.out]; exact scan_snoc hsc.out (fun rest => Lx.scan_tok rest H5.out H0.out H9.out)⟩, ⟨n2, n3⟩, ⟨n4, n5⟩⟩, hB.trans hb2'⟩⟩
        · have e0 : ((x.err : Int) == 0) = false := by rw [beq_eq_false_iff_ne]; omega
          have e1 : ((x.err : Int) != 0) = true := by rw [bne_iff_ne]; omega
          have H0 := Lib.hid h0; clear h0
          have hKO := (((KeepsOthers.setCell W ⟨w.heap.size, 0, none⟩ (.slice none 0 0)).trans (KeepsOthers.setCell _ ⟨w.heap.size + 1, 0, none⟩ (.int .i64 (x.pos : Int)))).trans (KeepsOthers.setCell _ ⟨w.heap.size + 1 + 1, 0, none⟩ (.int .i64 (x.err : Int)))).trans (KeepsOthers.drew _)
          have d2 := (((hb2.set (.slice none 0 0)).other (B' := w.heap.size + 1) (by omega) (.int .i64 (x.pos : Int))).other (B' := w.heap.size + 1 + 1) (by omega) (.int .i64 (x.err : Int)))
          have d3 := ((((hb3.other (B' := w.heap.size) (by omega) (.slice none 0 0))).set (.int .i64 (x.pos : Int))).other (B' := w.heap.size + 1 + 1) (by omega) (.int .i64 (x.err : Int)))
          have d4 := (((hb4.other (B' := w.heap.size) (by omega) (.slice none 0 0)).other (B' := w.heap.size + 1) (by omega) (.int .i64 (x.pos : Int))).set (.int .i64 (x.err : Int)))
          have hB3 := ((hB.setCell (p := ⟨w.heap.size, 0, none⟩) (Nat.le_refl _) (.slice none 0 0)).setCell (p := ⟨w.heap.size + 1, 0, none⟩) (by simp) (.int .i64 (x.pos : Int))).setCell (p := ⟨w.heap.size + 1 + 1, 0, none⟩) (by simp; omega) (.int .i64 (x.err : Int))
          have hmx : Tryd.prog.follows .mixedOrders = true := by kernel_rfl
          gi_wp2
          gi_region_with_o (fail)
          all_goals gi_wp2
          all_goals exact ⟨hKO.from _, ⟨⟨(x.pos, x.err), ⟨d2, d3, d4⟩, rfl, scan_snoc hsc.out (fun rest => Lx.scan_err rest H5.out H0.out)⟩, hB3.drew⟩⟩
    case done =>
      rintro D ys W hD rfl ⟨⟨⟨v, hv, hrow, hsc⟩, ⟨hb2, hb3⟩, ⟨hb4, hbs⟩⟩, hB⟩ hK
      obtain ⟨ao, cap, rfl⟩ := own_form hrow
      have hc := hv.cell
      have c2 := hb2.cell; have c3 := hb3.cell; have c4 := hb4.cell
      have f2 := hb2.frozen; have f3 := hb3.frozen; have f4 := hb4.frozen
      have hfin := hsc.out []
      rw [List.append_nil] at hfin
      rw [Lx.tokScan, HR.out] at hfin
      have HF := Lib.hid hfin; clear hfin
      have HK := Lib.hid hK; have HO := Lib.hid hrow; clear hK hrow
      gi_wp2
      have hK3 := (((KeepsOthers.setCell W ⟨w.heap.size, 0, none⟩ (.slice ao (toks (Lx.pieces s)).length cap)).trans (KeepsOthers.setCell _ ⟨w.heap.size + 1, 0, none⟩ (.int .i64 0))).trans (KeepsOthers.setCell _ ⟨w.heap.size + 1 + 1, 0, none⟩ (.int .i64 0))).same D _ HK.out rfl
      refine ⟨by simp, .inl ⟨_, _, rfl, run_takeDeferred hK3, ?_⟩⟩
      have d2 := (((hb2.set (.slice ao (toks (Lx.pieces s)).length cap)).other (B' := w.heap.size + 1) (by omega) (.int .i64 0)).other (B' := w.heap.size + 1 + 1) (by omega) (.int .i64 0))
      have d3 := ((((hb3.other (B' := w.heap.size) (by omega) (.slice ao (toks (Lx.pieces s)).length cap))).set (.int .i64 0)).other (B' := w.heap.size + 1 + 1) (by omega) (.int .i64 0))
      have d4 := (((hb4.other (B' := w.heap.size) (by omega) (.slice ao (toks (Lx.pieces s)).length cap)).other (B' := w.heap.size + 1) (by omega) (.int .i64 0)).set (.int .i64 0))
      have r1 := HO.out.kept (grownBy_setCell' W w.heap.size (.slice ao (toks (Lx.pieces s)).length cap)) (.inr (hb2.not_row (by decide) HO.out).symm)
      have r2 := r1.kept (grownBy_setCell' _ (w.heap.size + 1) (.int .i64 0)) (.inr ((hb3.other (B' := w.heap.size) (by omega) (.slice ao (toks (Lx.pieces s)).length cap)).not_row (by decide) r1).symm)
      have r3 := r2.kept (grownBy_setCell' _ (w.heap.size + 1 + 1) (.int .i64 0)) (.inr (((hb4.other (B' := w.heap.size) (by omega) (.slice ao (toks (Lx.pieces s)).length cap)).other (B' := w.heap.size + 1) (by omega) (.int .i64 0)).not_row (by decide) r2).symm)
      have r4 := ownsRow_putObj r3 (.deferred none) hK3 rfl
      have hB3 : Below w.heap.size w (((W.setCell ⟨w.heap.size, 0, none⟩ (.slice ao (toks (Lx.pieces s)).length cap)).setCell ⟨w.heap.size + 1, 0, none⟩ (.int .i64 0)).setCell ⟨w.heap.size + 1 + 1, 0, none⟩ (.int .i64 0)) :=
        ((hB.setCell (p := ⟨w.heap.size, 0, none⟩) (Nat.le_refl _) _).setCell (p := ⟨w.heap.size + 1, 0, none⟩) (by simp) _).setCell (p := ⟨w.heap.size + 1 + 1, 0, none⟩) (by simp; omega) _
      have hB4 := hB3.trans (belowK_b (w := w) (Nat.le_refl _) _ D _ (.deferred none) (by omega) hK3 rfl rfl)
      have x2 := cell_kept d2.cell (grownBy_putObj' _ D (.deferred none)) (fun r e => by cases e; exact ⟨_, hK3, rfl⟩)
      have x3 := cell_kept d3.cell (grownBy_putObj' _ D (.deferred none)) (fun r e => by cases e; exact ⟨_, hK3, rfl⟩)
      have x4 := cell_kept d4.cell (grownBy_putObj' _ D (.deferred none)) (fun r e => by cases e; exact ⟨_, hK3, rfl⟩)
      have hRv : R = (toks (Lx.pieces s), 0, 0) := HF.out
      generalize World.putObj _ D (.deferred none) = WF at *
      exact ⟨.tuple #[.slice ao (toks (Lx.pieces s)).length cap, .int .i64 0, .int .i64 0], by simp [results, Tryd.results19, go_sem, x2, x3, x4], _, by rw [hRv]; rfl, by rw [hRv]; exact r4, hB4⟩
    case stop =>
      rintro D c pre W hD hpre ⟨⟨q, ⟨h1, h2, h3⟩, rfl, hq⟩, hB⟩ hK
      obtain ⟨rest, hrest⟩ := hpre
      have hRv : R = ([], q.1, q.2) := by rw [← HR.out, ← hrest]; exact hq rest
      have HV := Lib.hid hRv; clear hRv hq
      have HK := Lib.hid hK; clear hK
      gi_wp2
      refine ⟨by simp, .inl ⟨_, _, rfl, run_takeDeferred HK.out, ?_⟩⟩
      have x2 := cell_kept h1.cell (grownBy_putObj' _ D (.deferred none)) (fun r e => by cases e; exact ⟨_, HK.out, rfl⟩)
      have x3 := cell_kept h2.cell (grownBy_putObj' _ D (.deferred none)) (fun r e => by cases e; exact ⟨_, HK.out, rfl⟩)
      have x4 := cell_kept h3.cell (grownBy_putObj' _ D (.deferred none)) (fun r e => by cases e; exact ⟨_, HK.out, rfl⟩)
      have hB4 := hB.trans (belowK_b (w := w) (Nat.le_refl _) _ D _ (.deferred none) (by omega) HK.out rfl rfl)
      generalize World.putObj _ D (.deferred none) = WF at *
      exact ⟨.tuple #[.slice none 0 0, .int .i64 (q.1 : Int), .int .i64 (q.2 : Int)], by simp [results, Tryd.results19, go_sem, x2, x3, x4], _, by rw [HV.out], by rw [HV.out]; exact World.ownsRow_nil _ _ _ _, hB4⟩
end Go.Proofs.YtchkngabppmbkaaDoor
