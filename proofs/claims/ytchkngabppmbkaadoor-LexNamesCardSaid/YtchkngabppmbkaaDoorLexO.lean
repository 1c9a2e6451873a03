/-
  WALKS: lex.places.
-/
import Derived.Test.YtchkngabppmbkaaDoorLexN
import Derived.Maps.AppendAt
namespace Go.Proofs.YtchkngabppmbkaaDoor
open Go.RowKit

def intCells (l : List Int) : List Value := l.map (.int .i64 ·)
theorem infoInt : (Tryd.prog.info? 3).map (fun i => (i.zero, i.size, i.bytes)) = some (some (.int .i64 0), 1, 8) := by kernel_rfl
theorem cell_one_newO (W : World) (a : Value) (t : TypeId) : ∀ j u, [a][j]? = some u → (W.alloc (.cells #[a] t)).cell? ((⟨W.heap.size, 0, none⟩ : Addr).add j) = some u := by
  intro j u hu
  have h : (⟨W.heap.size, 0, none⟩ : Addr).add j = ⟨W.heap.size, j, none⟩ := by unfold Addr.add; split <;> simp_all
  rw [h]
  unfold World.cell?
  rw [show (W.alloc (.cells #[a] t)).heap[W.heap.size]? = _ from heap_alloc_new W _]
  simpa using hu
theorem cell_one_atO (W : World) (n : Nat) (hn : n = W.heap.size) (a : Value) (t : TypeId) : ∀ j u, [a][j]? = some u → (W.alloc (.cells #[a] t)).cell? ((⟨n, 0, none⟩ : Addr).add j) = some u := by
  subst hn; exact cell_one_newO W a t
theorem lt_heapO {W : World} {k : Nat} {o : Obj} (h : W.heap[k]? = some o) : k < W.heap.size := (Array.getElem?_eq_some_iff.1 h).1
theorem own_formO {w : World} {base : Nat} {e : TypeId} {size : Nat} {v : Value} {n : Nat} {xs : List Value} (h : w.ownsRow base e size v n xs) : ∃ ao c, v = .slice ao n c := by
  rcases h.2 with ⟨rfl, rfl⟩ | ⟨g, cap, cur, rfl, _⟩
  · exact ⟨_, _, rfl⟩
  · exact ⟨_, _, rfl⟩
theorem ownsRow_belowO {w w' : World} {base : Nat} {e : TypeId} {size : Nat} {v : Value} {n : Nat} {xs : List Value} (h : w.ownsRow base e size v n xs) (hb : Below w.heap.size w w') : w'.ownsRow base e size v n xs := by
  refine ⟨h.1, ?_⟩
  rcases h.2 with h2 | ⟨g, cap, cur, h1, h2, h3, h4⟩
  · exact .inl h2
  · exact .inr ⟨g, cap, cur, h1, h2, (hb.block g (lt_heapO h3)).trans h3, h4⟩
theorem own_ltO {w : World} {base : Nat} {e : TypeId} {size : Nat} {v : Value} {n : Nat} {xs : List Value} (h : w.ownsRow base e size v n xs) {k : Nat} (hk : some k = v.ownBlock) : base ≤ k ∧ k < w.heap.size := by
  rcases h.2 with ⟨rfl, _⟩ | ⟨g, cap, cur, rfl, h2, h3, _⟩
  · cases hk
  · cases hk; exact ⟨h2, lt_heapO h3⟩

/-- A boxed token. -/
def BoxTk (w : World) (b : Nat) (k : Int) (t : ByteArray) (q : Int) : Prop := w.heap[b]? = some (.cells #[.int .u8 k, .string t, .int .i64 q] 63 (0, 0))
theorem BoxTk.lt {w : World} {b : Nat} {k : Int} {t : ByteArray} {q : Int} (h : BoxTk w b k t q) : b < w.heap.size := lt_heapO h
theorem BoxTk.c0 {w : World} {b : Nat} {k : Int} {t : ByteArray} {q : Int} (h : BoxTk w b k t q) : w.cell? ⟨b, 0, none⟩ = some (.int .u8 k) := by unfold World.cell?; rw [show w.heap[b]? = _ from h]; rfl
theorem BoxTk.c1 {w : World} {b : Nat} {k : Int} {t : ByteArray} {q : Int} (h : BoxTk w b k t q) : w.cell? ⟨b, 1, none⟩ = some (.string t) := by unfold World.cell?; rw [show w.heap[b]? = _ from h]; rfl
theorem BoxTk.c2 {w : World} {b : Nat} {k : Int} {t : ByteArray} {q : Int} (h : BoxTk w b k t q) : w.cell? ⟨b, 2, none⟩ = some (.int .i64 q) := by unfold World.cell?; rw [show w.heap[b]? = _ from h]; rfl
theorem BoxTk.f2 {w : World} {b : Nat} {k : Int} {t : ByteArray} {q : Int} (h : BoxTk w b k t q) : w.frozen? ⟨b, 2, none⟩ = false := by simp [World.frozen?, show w.heap[b]? = _ from h]
theorem BoxTk.put {w : World} {b : Nat} {k : Int} {t : ByteArray} {q : Int} (h : BoxTk w b k t q) (p : Int) : BoxTk (w.setCell ⟨b, 2, none⟩ (.int .i64 p)) b k t p := by
  unfold BoxTk at h ⊢
  simp [World.setCell, Array.getElem?_modify, h]
theorem BoxTk.keep {w w' : World} {b : Nat} {k : Int} {t : ByteArray} {q : Int} (h : BoxTk w b k t q) (hb : w'.heap[b]? = w.heap[b]?) : BoxTk w' b k t q := hb.trans h

theorem placesOf_snoc (t : Lx.Tk) (l : List Lx.Tk) (k : Nat) (x : Lx.Tk) (h : l[k]? = some x) : Lx.placesOf t (l.take (k + 1)) = Lx.placesOf t (l.take k) ++ (if x.kind = t.kind ∧ x.text = t.text then [x.pos] else []) := by
  rw [List.take_add_one, h, Lx.placesOf, List.filter_append, List.map_append]
  congr 1
  by_cases hc : x.kind = t.kind ∧ x.text = t.text <;> simp [hc]
theorem placesOf_len (t : Lx.Tk) (l : List Lx.Tk) : (Lx.placesOf t l).length ≤ l.length := by
  rw [Lx.placesOf, List.length_map]; exact List.length_filter_le _ _

set_option maxRecDepth 100000 in
set_option maxHeartbeats 4000000 in
theorem places_any (t : Lx.Tk) (l : List Lx.Tk) (A : Option Addr) (c : Nat) (w : World) (hl : l.length ≤ 1000000) (hA : Tks w w.heap.size A l) :
    Calls Tryd.prog 77 #[.slice A l.length c, .agg #[.int .u8 t.kind, .string t.text, .int .i64 t.pos]] w fun e w' => ∃ v, e = .returned v ∧
      w'.ownsRow (w.heap.size + 1) 3 1 v (Lx.placesOf t l).length (intCells (Lx.placesOf t l)) ∧ Below w.heap.size w w' := by
  obtain ⟨i0, hi, hz0, hz1, hz2⟩ := info_parts infoInt
  have HA := Lib.hid hA
  have qe := run_eql_tk
  have qg : ∀ (x y : Operand) (xs ys : Array Value) (w : World), (eqGuard .eql 63 x y (.agg xs) (.agg ys)).run Tryd.prog w = .ok () w := fun x y xs ys w => run_eqGuard_agg w _ _ x y xs ys (by kernel_rfl)
  clear hA
  go_enter Tryd.func77, Tryd.ntmps77
  go_wp2
  have hbx : BoxTk (w.alloc (.cells #[.int .u8 t.kind, .string t.text, .int .i64 t.pos] 63)) w.heap.size t.kind t.text t.pos := heap_alloc_new _ _
  have hB0 : Below w.heap.size w (w.alloc (.cells #[.int .u8 t.kind, .string t.text, .int .i64 t.pos] 63)) := (Below.refl _ _).alloc (Nat.le_refl _) _
  obtain ⟨W0, hW0⟩ : ∃ W0, w.alloc (.cells #[.int .u8 t.kind, .string t.text, .int .i64 t.pos] 63) = W0 := ⟨_, rfl⟩
  rw [hW0] at hbx hB0 ⊢
  clear hW0
  go_loopw [5, 10] (fun v i wr => ∃ (k : Nat) (q : Int), k ≤ l.length ∧ i = .int .i64 k ∧ Hid (wr.ownsRow (w.heap.size + 1) 3 1 v (Lx.placesOf t (l.take k)).length (intCells (Lx.placesOf t (l.take k)))) ∧ Hid (BoxTk wr w.heap.size t.kind t.text q) ∧ Below w.heap.size w wr) (fun _ i _ => l.length - (intOf i).toNat)
  case atStart => exact ⟨0, t.pos, Nat.zero_le _, rfl, World.ownsRow_nil _ _ _ _, hbx, hB0⟩
  case round =>
    obtain ⟨k, q, hk, rfl, hown, hbx, hB⟩ := hrel
    have hsz := hB.size
    have hltb := hbx.out.lt
    by_cases hlt : k < l.length
    · obtain ⟨b, off, rfl, hb, hc⟩ := HA.out.below hB (by intro e; subst e; simp at hlt)
      obtain ⟨x, hx⟩ : ∃ x, l[k]? = some x := ⟨_, List.getElem?_eq_getElem hlt⟩
      obtain ⟨x1, x2, x3⟩ := hc k x hx
      have c0 := hbx.out.c0
      have c1 := hbx.out.c1
      have c2 := hbx.out.c2
      have f2 := hbx.out.f2
      have HS := Lib.hid (placesOf_snoc t l k x hx)
      have hpl := Nat.le_trans (placesOf_len t (l.take k)) (List.length_take_le k l)
      have hne : b ≠ w.heap.size := by omega
      clear hc hx
      cases hq : tkEq x.kind t.kind x.text t.text x.pos x.pos
      · go_wp2
        go_roundw
        case rel =>
          refine ⟨k + 1, x.pos, by omega, by go_num, ?_, ?_, (hB.trans ((Below.refl _ _).setCell (p := ⟨w.heap.size, 2, none⟩) (Nat.le_refl _) _)).alloc (by simpa [World.setCell] using hsz) _⟩
          · have : ¬ (x.kind = t.kind ∧ x.text = t.text) := by intro hh; simp [tkEq, hh] at hq
            rw [Hid, HS.out, if_neg this, List.append_nil]
            exact (ownsRow_setCell_below hown.out (Nat.lt_succ_self _) _).alloc _
          · exact (hbx.out.put x.pos).keep (((Below.refl _ _).alloc (Nat.le_refl _) _).block _ (by simpa [World.setCell] using hltb))
        case measure => simp [intOf]; omega
      · have hO1 := Lib.hid ((ownsRow_setCell_below hown.out (Nat.lt_succ_self _) (a := ⟨w.heap.size, 2, none⟩) (.int .i64 x.pos)).alloc (.cells #[.int .u8 x.kind, .string x.text, .int .i64 x.pos] 63))
        have hbx1 : BoxTk ((wr.setCell ⟨w.heap.size, 2, none⟩ (.int .i64 x.pos)).alloc (.cells #[.int .u8 x.kind, .string x.text, .int .i64 x.pos] 63)) w.heap.size t.kind t.text x.pos := (hbx.out.put x.pos).keep (((Below.refl _ _).alloc (Nat.le_refl _) _).block _ (by simpa [World.setCell] using hltb))
        have hB1 : Below w.heap.size w ((wr.setCell ⟨w.heap.size, 2, none⟩ (.int .i64 x.pos)).alloc (.cells #[.int .u8 x.kind, .string x.text, .int .i64 x.pos] 63)) := (hB.trans ((Below.refl _ _).setCell (p := ⟨w.heap.size, 2, none⟩) (Nat.le_refl _) _)).alloc (by simpa [World.setCell] using hsz) _
        have HBX := Lib.hid hbx1
        go_wp2_with (at_builtin; go_loud (refine wpList_append_own_at _ rfl _ _ 41 rfl (w.heap.size + 1) 3 i0 (.int .i64 0) 1 8 Tryd.underlying41 hi hz0 hz1 hz2 rfl (by decide) _ _ _ rfl (hO1.out.alloc _) ⟨wr.heap.size + 1, 0, none⟩ 1 1 [.int .i64 x.pos] rfl rfl (cell_one_atO _ _ (by simp [World.setCell]) _ _) (by simp [Value.oneCell']) (by unfold maxLen; omega) (by omega) (by simp [World.setCell]; omega) ?_); intro v' w5 hown' hgrow _ hat)
        go_roundw
        case rel =>
          refine ⟨k + 1, x.pos, by omega, by go_num, ?_, ?_, ?_⟩
          · have : x.kind = t.kind ∧ x.text = t.text := by simp [tkEq] at hq; exact hq
            rw [Hid, HS.out, if_pos this, List.length_append]
            simpa [intCells] using hown'
          · have h1 : BoxTk _ w.heap.size t.kind t.text x.pos := HBX.out.keep (((Below.refl _ _).alloc (Nat.le_refl _) (.cells #[.int .i64 x.pos] 3)).block _ (by simpa [World.setCell] using Nat.lt_succ_of_lt hltb))
            exact h1.keep (hgrow.block _ h1.lt (fun e => by have := own_ltO (hO1.out.alloc (.cells #[.int .i64 x.pos] 3)) e; omega))
          · have hB2 := hB1.alloc (o := .cells #[.int .i64 x.pos] 3) hB1.size
            refine hB2.trans ⟨hgrow.os, hgrow.tape, hgrow.output, hgrow.size, fun j hj => hgrow.block j (Nat.lt_of_lt_of_le hj hB2.size) (fun e => ?_)⟩
            have := own_ltO (hO1.out.alloc (.cells #[.int .i64 x.pos] 3)) e
            omega
        case measure => simp [intOf]; omega
    · obtain rfl : k = l.length := by omega
      have HO := hown.out
      rw [List.take_length] at HO
      obtain ⟨ao, cap, rfl⟩ := own_formO HO
      have HO := Lib.hid HO
      clear hown
      go_wp2
      go_ret
      exact ⟨_, rfl, HO.out, hB⟩
end Go.Proofs.YtchkngabppmbkaaDoor
