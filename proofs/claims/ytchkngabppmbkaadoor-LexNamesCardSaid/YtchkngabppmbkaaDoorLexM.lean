/-
  WALKS: lex.Apply.
-/
import Derived.Test.YtchkngabppmbkaaDoorLexL
import Derived.Test.YtchkngabppmbkaaDoorLexK
import Derived.Test.YtchkngabppmbkaaDoorSpecE
import Derived.Test.YtchkngabppmbkaaDoorShelf
import Derived.Lib.AppendIntMem
namespace Go.Proofs.YtchkngabppmbkaaDoor
open Go.RowKit

set_option maxRecDepth 100000 in
set_option maxHeartbeats 2000000 in
theorem changesOf_any (s : ByteArray) (l : List Lx.Spl) (A : Option Addr) (c : Nat) (w : World) (hz : s.size ≤ 281474976710656) (hl : l.length ≤ 1152921504606846976) (ht : ∀ x ∈ l, x.text.size ≤ 1099511627776) (hS : Spls w w.heap.size A l) :
    Calls Tryd.prog 66 #[.string s, .slice A l.length c] w fun e w' => ∃ v, e = .returned (.tuple #[v, .int .i64 ((Lx.changesOf s l).2 : Int)]) ∧
      w'.ownsRow w.heap.size 95 5 v (Lx.changesOf s l).1.length (chgsCells (Lx.changesOf s l).1) ∧ Below w.heap.size w w' := by
  have HT := Lib.hid (fun W => textError_any s W (by omega))
  by_cases h0 : (Lx.textErr s).2 ≠ 0
  · rw [Lx.changesOf, if_pos h0]
    generalize (Lx.textErr s).1 = p at *
    generalize (Lx.textErr s).2 = er at *
    have h0' : ((er : Int) != 0) = true := by rw [bne_iff_ne]; omega
    clear h0 ht hS
    go_enter Tryd.func66, Tryd.ntmps66
    go_wp2_with (go_at_call 49; refine (HT.out _).mono ?_; rintro e w1 ⟨rfl, hB1⟩)
    go_ret2
    exact ⟨_, rfl, World.ownsRow_nil _ _ _ _, hB1⟩
  · have h0 : (Lx.textErr s).2 = 0 := by omega
    by_cases h40 : 40 < l.length
    · rw [Lx.changesOf, if_neg (by omega), if_pos h40]
      rw [h0] at HT
      generalize (Lx.textErr s).1 = p at *
      clear h0 ht hS
      go_enter Tryd.func66, Tryd.ntmps66
      go_wp2_with (go_at_call 49; refine (HT.out _).mono ?_; rintro e w1 ⟨rfl, hB1⟩)
      all_goals go_ret2
      all_goals exact ⟨_, rfl, World.ownsRow_nil _ _ _ _, hB1⟩
    · by_cases hr : Lx.rightFrom s.size 0 l = true
      · exact changesOf_loop s l A c w h0 (by omega) hr ht hS
      · have hr : Lx.rightFrom s.size 0 l = false := by simpa using hr
        have HQ := Lib.hid (fun (W : World) hW => rightFor_any s.size l A c W (by omega) hW)
        rw [hr] at HQ
        rw [Lx.changesOf, if_neg (by omega), if_neg h40, if_pos hr]
        rw [h0] at HT
        generalize (Lx.textErr s).1 = p at *
        have HS := Lib.hid hS
        have hsm := Lx.textErr_le h0
        clear h0 hr ht hS
        go_enter Tryd.func66, Tryd.ntmps66
        go_wp2_with (first
          | (go_at_call 49; refine (HT.out _).mono ?_; rintro e w1 ⟨rfl, hB1⟩; have HS1 := Lib.hid (HS.out.below hB1))
          | (go_at_call 89; refine (HQ.out _ (fun hn => by obtain ⟨b, off, h1, h2, h3⟩ := HS1.out hn; exact ⟨b, off, h1, Nat.lt_of_lt_of_le h2 hB1.size, h3⟩)).mono ?_; rintro e w2 ⟨rfl, hB2⟩; have hB12 := hB1.trans (hB2.mono hB1.size)))
        all_goals go_ret2
        all_goals exact ⟨_, rfl, World.ownsRow_nil _ _ _ _, hB12⟩

theorem chgsCells_get : ∀ (L : List Lx.Chg) (k : Nat) (x : Lx.Chg), L[k]? = some x → ∀ (j : Nat) (u : Value), (chgCells x)[j]? = some u → (chgsCells L)[k * 5 + j]? = some u
  | [], k, x, h => by simp at h
  | y :: ys, 0, x, h => fun j u hj => by
    simp only [List.getElem?_cons_zero, Option.some.injEq] at h
    subst h
    have : j < (chgCells y).length := (List.getElem?_eq_some_iff.1 hj).1
    rw [chgsCells, List.flatMap_cons, Nat.zero_mul, Nat.zero_add, List.getElem?_append_left this]
    exact hj
  | y :: ys, k + 1, x, h => fun j u hj => by
    simp only [List.getElem?_cons_succ] at h
    rw [chgsCells, List.flatMap_cons, List.getElem?_append_right (by simp [chgCells]; omega)]
    have := chgsCells_get ys k x h j u hj
    rw [chgsCells] at this
    rw [← this]; congr 1; simp [chgCells]; omega
/-- The rows of changes as a slice of blocks below B. -/
theorem ownsRow_cells {w : World} {base : Nat} {e : TypeId} {size : Nat} {v : Value} {n : Nat} {xs : List Value} (h : w.ownsRow base e size v n xs) (hn : n ≠ 0) : ∃ g cap, v = .slice (some ⟨g, 0, none⟩) n cap ∧ base ≤ g ∧ g < w.heap.size ∧ ∀ j u, xs[j]? = some u → w.cell? ⟨g, j, none⟩ = some u := by
  rcases h.2 with ⟨_, h2⟩ | ⟨g, cap, cur, rfl, h2, h3, _, _, _, h6⟩
  · exact absurd h2 hn
  · refine ⟨g, cap, rfl, h2, lt_heapL h3, fun j u hj => ?_⟩
    rw [← h6, List.getElem?_take] at hj
    split at hj
    · unfold World.cell?
      rw [h3]
      simpa using hj
    · cases hj

theorem strCells_bytes (s : ByteArray) : Lib.strCells s = Lib.byteCells s.data.toList := rfl
theorem byteCells_append (a b : List UInt8) : Lib.byteCells (a ++ b) = Lib.byteCells a ++ Lib.byteCells b := by simp [Lib.byteCells]
theorem byteCells_length (a : List UInt8) : (Lib.byteCells a).length = a.length := by simp [Lib.byteCells]

theorem isBuilder_keep {T e : TypeId} {B b : Nat} {bs : List Value} {w w' : World} (h : Lib.IsBuilder T e B b bs w) (hb : Below w.heap.size w w') : Lib.IsBuilder T e B b bs w' := by
  rcases h with ⟨h1, v, h2, h3, h4⟩ | ⟨h1, v, h2, h3, h4⟩
  · exact .inl ⟨h1, v, (hb.block b (lt_heapL h2)).trans h2, ownsRow_below h3 hb, h4⟩
  · exact .inr ⟨h1, v, (hb.block b (lt_heapL h2)).trans h2, ownsRow_below h3 hb, h4⟩
theorem Oth.cell_new {b : Nat} {w w' : World} {cs : List Value} {t : TypeId} (ho : Oth b (w.alloc (.cells ⟨cs⟩ t)) w') (hb : w.heap.size ≠ b) (ht : t ≠ 5) {j : Nat} {v : Value} (hj : cs[j]? = some v) : w'.cell? ⟨w.heap.size, j, none⟩ = some v := by
  have h := ho w.heap.size _ _ _ hb ht (heap_alloc_new w _)
  unfold World.cell?
  rw [h]
  simpa using hj
theorem Oth.cell_on {b : Nat} {w w1 w' : World} {cs : List Value} {t : TypeId} (ho : Oth b (w.alloc (.cells ⟨cs⟩ t)) w1) (ho2 : Oth b w1 w') (hb : w.heap.size ≠ b) (ht : t ≠ 5) {j : Nat} {v : Value} (hj : cs[j]? = some v) : w'.cell? ⟨w.heap.size, j, none⟩ = some v :=
  (ho.trans ho2).cell_new hb ht hj

set_option maxRecDepth 100000 in
set_option maxHeartbeats 4000000 in
theorem apply_any (s : ByteArray) (l : List Lx.Spl) (A : Option Addr) (c : Nat) (w : World) (hz : s.size ≤ 281474976710656) (hl : l.length ≤ 1152921504606846976) (ht : ∀ x ∈ l, x.text.size ≤ 1099511627776) (hS : Spls w w.heap.size A l) :
    Calls Tryd.prog 35 #[.string s, .slice A l.length c] w fun e w' => e = .returned (.tuple #[.string (Lx.applyOf s l).1, .int .i64 ((Lx.applyOf s l).2 : Int)]) ∧ Below w.heap.size w w' := by
  have HC := Lib.hid (changesOf_any s l A c w hz hl ht hS)
  by_cases h0 : (Lx.changesOf s l).2 ≠ 0
  · rw [Lx.applyOf, if_pos h0]
    generalize (Lx.changesOf s l).1 = L at *
    generalize (Lx.changesOf s l).2 = er at *
    have h0' : ((er : Int) != 0) = true := by rw [bne_iff_ne]; omega
    clear h0 ht hS
    go_enter Tryd.func35, Tryd.ntmps35
    go_wp2_with (go_at_call 66; refine HC.out.mono ?_; rintro e w1 ⟨v, rfl, hown, hB1⟩)
    go_ret2
    exact ⟨rfl, hB1⟩
  · have h0 : (Lx.changesOf s l).2 = 0 := by omega
    obtain ⟨hL, hte, h40, hr, _, _⟩ := Lx.changesOf_ok h0
    have hsm := Lx.textErr_le hte
    rw [Lx.applyOf, if_neg (by omega)]
    obtain ⟨R, hR⟩ : ∃ R, Lx.spliceOut s 0 l = R := ⟨_, rfl⟩
    rw [hR]
    have hlen : (Lx.chgs s 0 l).length = l.length := Lx.chgs_length s l 0
    have HGET := Lib.hid (fun (k : Nat) (c : Lx.Chg) (h : (Lx.chgs s 0 l)[k]? = some c) => Lx.chgs_get s h)
    rw [hL, h0] at HC
    have HR := Lib.hid hR
    have HRF := Lib.hid hr
    have HTX := Lib.hid ht
    obtain ⟨L, hLL⟩ : ∃ L, Lx.chgs s 0 l = L := ⟨_, rfl⟩
    rw [hLL] at HC hlen HGET
    clear h0 hL hte hR hr ht hS hLL
    go_enter Tryd.func35, Tryd.ntmps35
    go_wp2_with (go_at_call 66; refine HC.out.mono ?_; rintro e w1 ⟨v, rfl, hown, hB1⟩; obtain ⟨ao, cap, rfl⟩ := own_slice_form hown)
    have hBld : Lib.IsBuilder 80 5 w1.heap.size w1.heap.size [] (w1.alloc (.cells #[.pointer none, .slice none 0 0] 80)) := .inl ⟨Nat.le_refl _, .slice none 0 0, heap_alloc_new _ _, World.ownsRow_nil _ _ _ _, by simp [Value.ownBlock]⟩
    have hB2 : Below w1.heap.size w1 (w1.alloc (.cells #[.pointer none, .slice none 0 0] 80)) := (Below.refl _ _).alloc (Nat.le_refl _) _
    have hs2 : w1.heap.size ≤ (w1.alloc (.cells #[.pointer none, .slice none 0 0] 80)).heap.size := by simp
    obtain ⟨W0, hW0⟩ : ∃ W0, w1.alloc (.cells #[.pointer none, .slice none 0 0] 80) = W0 := ⟨_, rfl⟩
    rw [hW0] at hBld hB2 hs2
    have HB1 := Lib.hid hB1
    have HOWN := Lib.hid hown
    rw [hW0]
    clear hB1 hown hW0
    go_loopw [9, 23] (fun d i wr => ∃ (k : Nat) (q : Int) (bs : List Value), k ≤ L.length ∧ i = .int .i64 k ∧ d = .int .i64 q ∧ 0 ≤ q ∧ q ≤ s.size ∧ Hid (Lx.rightFrom s.size q (l.drop k) = true) ∧ Hid (Lib.byteCells R = bs ++ Lib.byteCells (Lx.spliceOut s q (l.drop k))) ∧ bs.length ≤ k * 1099511637776 ∧ Hid (Lib.IsBuilder 80 5 w1.heap.size w1.heap.size bs wr) ∧ Below w1.heap.size W0 wr) (fun _ i _ => L.length - (intOf i).toNat)
    case atStart => exact ⟨0, 0, [], Nat.zero_le _, rfl, rfl, by omega, by omega, HRF.out, by rw [Hid, ← HR.out]; rfl, by simp, hBld, Below.refl _ _⟩
    case round =>
      obtain ⟨k, q, bs, hk, rfl, rfl, hq0, hq1, hrf, hbs, hbl, hbd, hBr⟩ := hrel
      have hszr := hBr.size
      by_cases hlt : k < L.length
      · obtain ⟨gg, cap', hv, hg1, hg2, hcs⟩ := ownsRow_cells HOWN.out (by omega)
        cases hv
        obtain ⟨x, hx⟩ : ∃ x, L[k]? = some x := ⟨_, List.getElem?_eq_getElem hlt⟩
        have hlx := HGET.out k x hx
        have hd := Lx.drop_of_get hlx
        have hxm : x.spl ∈ l := List.mem_of_getElem? hlx
        have htx := HTX.out _ hxm
        have hrf' := hrf.out
        rw [hd] at hrf'
        have ha := Lx.rightFrom_all hrf' x.spl (by simp)
        rw [rightFrom_cons] at hrf'
        simp only [Bool.and_eq_true] at hrf'
        have HRF2 := Lib.hid hrf'.2
        have hB02 := hB2.trans hBr
        have e0 : wr.cell? ⟨gg, k * 5, none⟩ = some (.int .i64 x.spl.lo) := (hB02.cell (p := ⟨gg, _, none⟩) hg2).trans (hcs _ _ (chgsCells_get L k x hx 0 _ rfl))
        have e1 : wr.cell? ⟨gg, k * 5 + 1, none⟩ = some (.int .i64 x.spl.hi) := (hB02.cell (p := ⟨gg, _, none⟩) hg2).trans (hcs _ _ (chgsCells_get L k x hx 1 _ rfl))
        have e2 : wr.cell? ⟨gg, k * 5 + 2, none⟩ = some (.string x.spl.text) := (hB02.cell (p := ⟨gg, _, none⟩) hg2).trans (hcs _ _ (chgsCells_get L k x hx 2 _ rfl))
        have e3 : wr.cell? ⟨gg, k * 5 + 3, none⟩ = some (.int .i64 x.pos) := (hB02.cell (p := ⟨gg, _, none⟩) hg2).trans (hcs _ _ (chgsCells_get L k x hx 3 _ rfl))
        have e4 : wr.cell? ⟨gg, k * 5 + 4, none⟩ = some (.string x.out) := (hB02.cell (p := ⟨gg, _, none⟩) hg2).trans (hcs _ _ (chgsCells_get L k x hx 4 _ rfl))
        have hbs' := hbs.out
        rw [hd] at hbs'
        have HBS := Lib.hid hbs'
        clear hrf' hrf hbs hbs' hd hlx hx hcs hxm
        have hk40 : k ≤ 40 := by omega
        have hbn := hbd.out
        have hb0 : Lib.IsBuilder 80 5 w1.heap.size w1.heap.size bs (wr.alloc (.cells #[.int .i64 x.spl.lo, .int .i64 x.spl.hi, .string x.spl.text, .int .i64 x.pos, .string x.out] 95)) := isBuilder_keep hbn ((Below.refl _ _).alloc (Nat.le_refl _) _)
        have hbne : wr.heap.size ≠ w1.heap.size := by rcases hbn with h | h <;> (have := h.lt; omega)
        have hBA : Below w1.heap.size wr (wr.alloc (.cells #[.int .i64 x.spl.lo, .int .i64 x.spl.hi, .string x.spl.text, .int .i64 x.pos, .string x.out] 95)) := (Below.refl _ _).alloc (by omega) _
        have hszA : w1.heap.size ≤ (wr.alloc (.cells #[.int .i64 x.spl.lo, .int .i64 x.spl.hi, .string x.spl.text, .int .i64 x.pos, .string x.out] 95)).heap.size := by simp; omega
        have hl1 : bs.length + (s.extract q.toNat x.spl.lo.toNat).size ≤ 140737488355328 := by rw [ByteArray.size_extract]; omega
        have hl2 : (bs ++ Lib.strCells (s.extract q.toNat x.spl.lo.toNat)).length + x.spl.text.size ≤ 140737488355328 := by rw [List.length_append, Lib.strCells_length, ByteArray.size_extract]; omega
        have ht8 : 95 ≠ 5 := by decide
        clear hbd hbn
        go_wp2_with (go_at_call 59; first
          | (refine (writeString_any w1.heap.size w1.heap.size _ _ _ (.inr h3) hl2 (Nat.le_trans hszA hB3.size)).mono ?_; rintro e w4 ⟨rfl, h4, hB4, hO4⟩; have c1 := Oth.cell_on hO3 hO4 hbne ht8 (j := 1) rfl)
          | (refine (writeString_any w1.heap.size w1.heap.size _ _ _ hb0 hl1 hszA).mono ?_; rintro e w3 ⟨rfl, h3, hB3, hO3⟩; have c2 := hO3.cell_new hbne ht8 (j := 2) rfl))
        go_roundw
        case rel =>
          refine ⟨k + 1, x.spl.hi, bs ++ Lib.strCells (s.extract q.toNat x.spl.lo.toNat) ++ Lib.strCells x.spl.text, by omega, by go_num, rfl, by omega, by omega, HRF2.out, ?_, ?_, .inr h4, ((hBr.trans hBA).trans hB3).trans hB4⟩
          · rw [Hid, HBS.out, Lx.spliceOut, byteCells_append, byteCells_append, List.append_assoc, List.append_assoc]; rfl
          · rw [List.length_append, List.length_append, Lib.strCells_length, Lib.strCells_length, ByteArray.size_extract]; omega
        case measure => simp [intOf]; omega
      · obtain rfl : k = L.length := by omega
        have hbs' := hbs.out
        rw [hlen, List.drop_length, Lx.spliceOut] at hbs'
        have HBS := Lib.hid hbs'
        have hbn := hbd.out
        have hszA : w1.heap.size ≤ wr.heap.size := by omega
        have hl1 : bs.length + (s.extract q.toNat s.size).size ≤ 140737488355328 := by rw [ByteArray.size_extract]; omega
        clear hbs' hbs hrf hbd
        go_wp2_with (first
          | (go_at_call 59; refine (writeString_any w1.heap.size w1.heap.size _ _ _ hbn hl1 hszA).mono ?_; rintro e w3 ⟨rfl, h3, hB3, hO3⟩; have h3' : Lib.IsBuilder 80 5 w1.heap.size w1.heap.size (Lib.byteCells R) w3 := .inr (HBS.out ▸ h3))
          | (go_at_call 61; refine (Tryd.Builder_String_any w1.heap.size w1.heap.size R _ h3' (Nat.le_trans hszA hB3.size)).mono ?_; rintro e w4 ⟨rfl, hB4⟩))
        go_ret2
        exact ⟨rfl, HB1.out.trans ((((hB2.trans hBr).trans hB3).trans hB4).mono HB1.out.size)⟩
end Go.Proofs.YtchkngabppmbkaaDoor
