/-
  WALKS: slices of tokens: SameTokens.
-/
import Derived.Test.YtchkngabppmbkaaDoorLexG
import Derived.Test.YtchkngabppmbkaaDoorSpecF
import Derived.BigQuiet
import Derived.WalkSpells
import Derived.Laws.StructEq
namespace Go.Proofs.YtchkngabppmbkaaDoor
open Go.RowKit

/-- A slice value's address A reads as the tokens l, in blocks below B. -/
def TksAt (w : World) (B b off : Nat) (l : List Lx.Tk) : Prop := b < B ∧ ∀ (i : Nat) (x : Lx.Tk), l[i]? = some x → w.cell? ⟨b, off + i * 3, none⟩ = some (.int .u8 x.kind) ∧ w.cell? ⟨b, off + i * 3 + 1, none⟩ = some (.string x.text) ∧ w.cell? ⟨b, off + i * 3 + 2, none⟩ = some (.int .i64 x.pos)
def Tks (w : World) (B : Nat) (A : Option Addr) (l : List Lx.Tk) : Prop := l ≠ [] → ∃ b off, A = some ⟨b, off, none⟩ ∧ TksAt w B b off l
theorem Tks.below {w w' : World} {B : Nat} {A : Option Addr} {l : List Lx.Tk} (h : Tks w B A l) (hb : Below B w w') : Tks w' B A l := fun hn => by
  obtain ⟨b, off, hA, hlt, hc⟩ := h hn
  refine ⟨b, off, hA, hlt, fun i x hx => ?_⟩
  obtain ⟨h1, h2, h3⟩ := hc i x hx
  exact ⟨(hb.cell (p := ⟨b, _, none⟩) hlt).trans h1, (hb.cell (p := ⟨b, _, none⟩) hlt).trans h2, (hb.cell (p := ⟨b, _, none⟩) hlt).trans h3⟩
theorem Tks.mono {w : World} {B B' : Nat} {A : Option Addr} {l : List Lx.Tk} (h : Tks w B A l) (hb : B ≤ B') : Tks w B' A l := fun hn => by
  obtain ⟨b, off, hA, hlt, hc⟩ := h hn
  exact ⟨b, off, hA, Nat.lt_of_lt_of_le hlt hb, hc⟩

def tkV (x : Lx.Tk) : Value := .agg #[.int .u8 x.kind, .string x.text, .int .i64 x.pos]
def tkEq (k k' : Int) (a b : ByteArray) (p p' : Int) : Bool := decide (k = k' ∧ a = b ∧ p = p')
theorem tok_equal (w : World) (k k' : Int) (a b : ByteArray) (p p' : Int) : (Op.equalIn 10000 63 (.agg #[.int .u8 k, .string a, .int .i64 p]) (.agg #[.int .u8 k', .string b, .int .i64 p'])).run Tryd.prog w = .ok (tkEq k k' a b p p') w := by
  rw [run_equalIn_struct w 9999 63 _ _ (by kernel_rfl) (by kernel_rfl)]
  simp only [Program.fieldsOf, Tryd.underlying63]
  have hs : (a.toList == b.toList) = decide (a = b) := by
    rw [ByteArray.toList_eq, ByteArray.toList_eq]
    refine Bool.eq_iff_iff.2 ?_
    rw [beq_iff_eq, decide_eq_true_iff, Array.toList_inj]
    obtain ⟨x⟩ := a; obtain ⟨y⟩ := b
    simp
  go_simp
  unfold tkEq
  by_cases h1 : k = k'
  · by_cases h2 : a = b
    · by_cases h3 : p = p' <;> simp [h1, h2, h3]
    · simp [h1, h2]
  · simp [h1]
theorem run_eql_tk (w : World) (k k' : Int) (a b : ByteArray) (p p' : Int) : (binOp .eql 63 (.agg #[.int .u8 k, .string a, .int .i64 p]) (.agg #[.int .u8 k', .string b, .int .i64 p'])).run Tryd.prog w = .ok (.bool (tkEq k k' a b p p')) w := by
  rw [run_eql_struct, tok_equal]; rfl
theorem run_neq_tk (w : World) (k k' : Int) (a b : ByteArray) (p p' : Int) : (binOp .neq 63 (.agg #[.int .u8 k, .string a, .int .i64 p]) (.agg #[.int .u8 k', .string b, .int .i64 p'])).run Tryd.prog w = .ok (.bool (!tkEq k k' a b p p')) w := by
  rw [run_neq_struct, tok_equal]; rfl

set_option maxRecDepth 100000 in
set_option maxHeartbeats 4000000 in
theorem sameTokens_any (l m : List Lx.Tk) (A C : Option Addr) (c d : Nat) (w : World) (hl : l.length ≤ 1152921504606846976) (hm : m.length ≤ 1152921504606846976) (hA : Tks w w.heap.size A l) (hC : Tks w w.heap.size C m) :
    Calls Tryd.prog 23 #[.slice A l.length c, .slice C m.length d] w fun e w' => e = .returned (.bool (decide (l = m))) ∧ Below w.heap.size w w' := by
  have HA := Lib.hid hA
  have HC := Lib.hid hC
  have qn := run_neq_tk
  have qg : ∀ (x y : Operand) (xs ys : Array Value) (w : World), (eqGuard .neq 63 x y (.agg xs) (.agg ys)).run Tryd.prog w = .ok () w := fun x y xs ys w => run_eqGuard_agg w _ _ x y xs ys (by kernel_rfl)
  clear hA hC
  by_cases hne : l.length = m.length
  · have hn2 : ((l.length : Int) != (m.length : Int)) = false := by rw [bne_eq_false_iff_eq]; omega
    obtain ⟨D, hD⟩ : ∃ D, decide (l = m) = D := ⟨_, rfl⟩
    rw [hD]
    have HD := Lib.hid hD
    clear hD
    go_enter Tryd.func23, Tryd.ntmps23
    go_wp2
    go_loopw [5] (fun i wr => ∃ (k : Nat), k ≤ l.length ∧ i = .int .i64 k ∧ Hid (l.take k = m.take k) ∧ Below w.heap.size w wr) (fun i _ => l.length - (intOf i).toNat)
    case atStart => exact ⟨0, Nat.zero_le _, rfl, rfl, Below.refl _ _⟩
    case round =>
      obtain ⟨k, hk, rfl, htk, hB⟩ := hrel
      have hsz := hB.size
      by_cases hlt : k < l.length
      · have hne1 : l ≠ [] := by intro e; subst e; simp at hlt
        have hne2 : m ≠ [] := by intro e; rw [e, List.length_nil] at hne; omega
        obtain ⟨b, off, rfl, hb, hc⟩ := HA.out.below hB hne1
        obtain ⟨b', off', rfl, hb', hc'⟩ := HC.out.below hB hne2
        obtain ⟨x, hx⟩ : ∃ x, l[k]? = some x := ⟨_, List.getElem?_eq_getElem hlt⟩
        obtain ⟨y, hy⟩ : ∃ y, m[k]? = some y := ⟨_, List.getElem?_eq_getElem (by omega)⟩
        obtain ⟨x1, x2, x3⟩ := hc k x hx
        obtain ⟨y1, y2, y3⟩ := hc' k y hy
        have hlm : k < m.length := by omega
        have T1 : l.take (k + 1) = l.take k ++ [x] := by rw [List.take_add_one, hx]; rfl
        have T2 : m.take (k + 1) = m.take k ++ [y] := by rw [List.take_add_one, hy]; rfl
        have HX := Lib.hid hx; have HY := Lib.hid hy; have H1 := Lib.hid T1; have H2 := Lib.hid T2
        clear hc hc' hx hy T1 T2 hne1 hne2
        cases hq : tkEq x.kind y.kind x.text y.text x.pos y.pos
        · go_wp2
          go_region
          go_wp2
          go_ret
          refine ⟨?_, hB.drew⟩
          have : l ≠ m := by
            rintro rfl
            have e : x = y := Option.some.inj (HX.out.symm.trans HY.out)
            subst e
            simp [tkEq] at hq
          rw [← HD.out, decide_eq_false this]; rfl
        · go_wp2
          go_region
          go_wp2
          go_roundw
          case rel =>
            refine ⟨k + 1, by omega, by go_num, ?_, hB.drew⟩
            have e : x = y := by
              simp only [tkEq, decide_eq_true_eq] at hq
              obtain ⟨h1, h2, h3⟩ := hq
              cases x; cases y; simp_all
            rw [Hid, H1.out, H2.out, htk.out, e]
          case measure => simp [intOf]; omega
      · obtain rfl : k = l.length := by omega
        have : l = m := by
          have := htk.out
          rwa [List.take_length, hne, List.take_length] at this
        rw [decide_eq_true this] at HD
        go_wp2
        go_ret
        exact ⟨by rw [← HD.out]; rfl, hB⟩
  · have hd : decide (l = m) = false := by rw [decide_eq_false_iff_not]; rintro rfl; exact hne rfl
    have hn2 : ((l.length : Int) != (m.length : Int)) = true := by rw [bne_iff_ne]; omega
    rw [hd]
    go_enter Tryd.func23, Tryd.ntmps23
    go_wp2
    go_ret
    exact ⟨rfl, Below.refl _ _⟩

theorem cells_new_at3 (W : World) (a b c : Value) (t : TypeId) : ∀ j u, [a, b, c][j]? = some u → (W.alloc (.cells #[a, b, c] t)).cell? ⟨W.heap.size, j, none⟩ = some u := by
  intro j u hu
  unfold World.cell?
  rw [show (W.alloc (.cells #[a, b, c] t)).heap[W.heap.size]? = _ from heap_alloc_new W _]
  simpa using hu

set_option maxRecDepth 100000 in
set_option maxHeartbeats 4000000 in
theorem right_any (l : List Lx.Tk) (A : Option Addr) (c : Nat) (w : World) (hG : GV w) (hl : l.length ≤ 1152921504606846976) (hz : ∀ x ∈ l, x.text.size ≤ 281474976710656) (hA : Tks w w.heap.size A l) :
    Calls Tryd.prog 76 #[.slice A l.length c] w fun e w' => e = .returned (.bool (l.all Lx.tokOk)) ∧ Below w.heap.size w w' := by
  have HA := Lib.hid hA
  have HZ := Lib.hid hz
  have qn := run_neq_tk
  have qg : ∀ (x y : Operand) (xs ys : Array Value) (w : World), (eqGuard .neq 63 x y (.agg xs) (.agg ys)).run Tryd.prog w = .ok () w := fun x y xs ys w => run_eqGuard_agg w _ _ x y xs ys (by kernel_rfl)
  obtain ⟨D, hD⟩ : ∃ D, l.all Lx.tokOk = D := ⟨_, rfl⟩
  rw [hD]
  have HD := Lib.hid hD
  clear hA hz hD
  go_enter Tryd.func76, Tryd.ntmps76
  go_wp2_with (go_at_call 81; refine (keywords_any _).mono ?_; rintro e w1 ⟨rfl, rfl⟩)
  have hkw : (w.alloc kwObj).heap[w.heap.size]? = some kwObj := heap_alloc_new _ _
  have hB0 : Below w.heap.size w (w.alloc kwObj) := (Below.refl _ _).alloc (Nat.le_refl _) _
  have hs0 : (w.alloc kwObj).heap.size = w.heap.size + 1 := by simp
  obtain ⟨W0, hW0⟩ : ∃ W0, w.alloc kwObj = W0 := ⟨_, rfl⟩
  rw [hW0] at hkw hB0 hs0 ⊢
  clear hW0
  go_loopw [11] (fun i wr => ∃ (k : Nat), k ≤ l.length ∧ i = .int .i64 k ∧ Hid ((l.drop k).all Lx.tokOk = D) ∧ Below W0.heap.size W0 wr) (fun i _ => l.length - (intOf i).toNat)
  case atStart => exact ⟨0, Nat.zero_le _, rfl, HD.out, Below.refl _ _⟩
  case round =>
    obtain ⟨k, hk, rfl, hdr, hBr⟩ := hrel
    have hsr := hBr.size
    have hB := hB0.trans (hBr.mono (by omega))
    have hsz := hB.size
    by_cases hlt : k < l.length
    · obtain ⟨b, off, rfl, hb, hc⟩ := HA.out.below hB (by intro e; subst e; simp at hlt)
      obtain ⟨x, hx⟩ : ∃ x, l[k]? = some x := ⟨_, List.getElem?_eq_getElem hlt⟩
      obtain ⟨x1, x2, x3⟩ := hc k x hx
      have hd : l.drop k = x :: l.drop (k + 1) := by
        obtain ⟨hk, hx⟩ := List.getElem?_eq_some_iff.1 hx
        rw [List.drop_eq_getElem_cons hk, hx]
      have hxz := HZ.out x (List.mem_of_getElem? hx)
      have hdr' := hdr.out
      rw [hd, List.all_cons] at hdr'
      have HDR := Lib.hid hdr'
      have hG1 : GV (wr.alloc (.cells #[.int .u8 x.kind, .string x.text, .int .i64 0] 63)) := hG.below (hB.alloc hsz _)
      have hkw1 : (wr.alloc (.cells #[.int .u8 x.kind, .string x.text, .int .i64 0] 63)).heap[w.heap.size]? = some kwObj := (((Below.refl _ wr).alloc (Nat.le_refl _) _).block _ (by omega)).trans ((hBr.block _ (by omega)).trans hkw)
      clear hd hx hc hdr hdr'
      have hem : x.text.toList.isEmpty = decide (x.text.size = 0) := by
        rw [ByteArray.toList_eq]
        show x.text.data.toList.isEmpty = decide (x.text.data.size = 0)
        refine Bool.eq_iff_iff.2 ?_
        rw [List.isEmpty_iff, decide_eq_true_iff, ← Array.length_toList, List.length_eq_zero_iff]
      by_cases h0 : x.text.size = 0
      · have hem' : x.text.toList.isEmpty = true := by rw [hem, decide_eq_true h0]
        have hno : Lx.tokOk x = false := by simp [Lx.tokOk, h0]
        have HDR2 := Lib.hid (HDR.out.symm.trans (by rw [hno, Bool.false_and]))
        clear HDR hno hem
        go_wp2
        go_ret
        exact ⟨ret_bool (by rw [HDR2.out]), hB.alloc hsz _⟩
      · have hem' : x.text.toList.isEmpty = false := by rw [hem, decide_eq_false h0]
        have HP : Calls Tryd.prog 83 #[.string x.text, .int .i64 0, .map (some w.heap.size)] (wr.alloc (.cells #[.int .u8 x.kind, .string x.text, .int .i64 0] 63)) fun e w' =>
          e = .returned (.tuple #[tokV (Lx.piece x.text 0).1 (Lx.piece x.text 0).2.1 0, .int .i64 ((Lx.piece x.text 0).2.2 : Int)]) ∧ Below (wr.alloc (.cells #[.int .u8 x.kind, .string x.text, .int .i64 0] 63)).heap.size (wr.alloc (.cells #[.int .u8 x.kind, .string x.text, .int .i64 0] 63)) w' := piece_any x.text 0 w.heap.size _ hxz (by omega) hkw1 hG1
        have hok : Lx.tokOk x = (decide ((Lx.piece x.text 0).2.2 = 0) && decide (((Lx.piece x.text 0).1 : Int) = x.kind ∧ (Lx.piece x.text 0).2.1 = x.text)) := by simp [Lx.tokOk, h0]
        rw [hok] at HDR
        clear hok hem
        generalize (Lx.piece x.text 0).1 = pk at *
        generalize (Lx.piece x.text 0).2.1 = pt at *
        generalize (Lx.piece x.text 0).2.2 = pe at *
        have HP := Lib.hid HP
        have hBA := hB.alloc hsz (.cells #[.int .u8 x.kind, .string x.text, .int .i64 0] 63)
        by_cases he : pe = 0
        · subst he
          have HDR' := HDR.out
          rw [decide_eq_true (p := 0 = 0) rfl, Bool.true_and] at HDR'
          have hq : tkEq pk x.kind pt x.text 0 0 = decide ((pk : Int) = x.kind ∧ pt = x.text) := by simp [tkEq]
          rw [← hq] at HDR'
          have HDQ := Lib.hid HDR'
          clear hq HDR' HDR
          cases hqq : tkEq pk x.kind pt x.text 0 0
          · go_wp2_with (go_at_call 83; refine HP.out.mono ?_; rintro e w3 ⟨rfl, hB3⟩; go_loud (simp only [tokV]; have hlt3 : wr.heap.size < w3.heap.size := Nat.lt_of_lt_of_le (by rw [World.size_alloc]; exact Nat.lt_succ_self _) hB3.size; have n0 := (hB3.cell (p := ⟨wr.heap.size, 0, none⟩) (by simp)).trans (cells_new_at3 wr _ _ _ _ 0 _ rfl); have n1 := (hB3.cell (p := ⟨wr.heap.size, 1, none⟩) (by simp)).trans (cells_new_at3 wr _ _ _ _ 1 _ rfl); have n2 := (hB3.cell (p := ⟨wr.heap.size, 2, none⟩) (by simp)).trans (cells_new_at3 wr _ _ _ _ 2 _ rfl)))
            go_ret
            exact ⟨ret_bool (by rw [← HDQ.out]; simp only [hqq, Bool.false_and]), (hBA.trans (hB3.mono (by simp; omega))).alloc (by have := hB3.size; simp at this; omega) _⟩
          · have HDR := HDQ.out
            simp only [hqq, Bool.true_and] at HDR
            have HDR := Lib.hid HDR
            go_wp2_with (go_at_call 83; refine HP.out.mono ?_; rintro e w3 ⟨rfl, hB3⟩; go_loud (simp only [tokV]; have hlt3 : wr.heap.size < w3.heap.size := Nat.lt_of_lt_of_le (by rw [World.size_alloc]; exact Nat.lt_succ_self _) hB3.size; have n0 := (hB3.cell (p := ⟨wr.heap.size, 0, none⟩) (by simp)).trans (cells_new_at3 wr _ _ _ _ 0 _ rfl); have n1 := (hB3.cell (p := ⟨wr.heap.size, 1, none⟩) (by simp)).trans (cells_new_at3 wr _ _ _ _ 1 _ rfl); have n2 := (hB3.cell (p := ⟨wr.heap.size, 2, none⟩) (by simp)).trans (cells_new_at3 wr _ _ _ _ 2 _ rfl)))
            go_roundw
            case rel => exact ⟨k + 1, by omega, by go_num, HDR.out, ((hBr.alloc (by omega) _).trans (hB3.mono (by simp; omega))).alloc (by have := hB3.size; simp at this; omega) _⟩
            case measure => simp [intOf]; omega
        · have he' : ((pe : Int) != 0) = true := by rw [bne_iff_ne]; omega
          rw [decide_eq_false he, Bool.false_and, Bool.false_and] at HDR
          go_wp2_with (go_at_call 83; refine HP.out.mono ?_; rintro e w3 ⟨rfl, hB3⟩; go_loud (simp only [tokV]; have hlt3 : wr.heap.size < w3.heap.size := Nat.lt_of_lt_of_le (by rw [World.size_alloc]; exact Nat.lt_succ_self _) hB3.size; have n0 := (hB3.cell (p := ⟨wr.heap.size, 0, none⟩) (by simp)).trans (cells_new_at3 wr _ _ _ _ 0 _ rfl); have n1 := (hB3.cell (p := ⟨wr.heap.size, 1, none⟩) (by simp)).trans (cells_new_at3 wr _ _ _ _ 1 _ rfl); have n2 := (hB3.cell (p := ⟨wr.heap.size, 2, none⟩) (by simp)).trans (cells_new_at3 wr _ _ _ _ 2 _ rfl)))
          go_ret
          exact ⟨ret_bool (by rw [← HDR.out]), (hBA.trans (hB3.mono (by simp; omega))).alloc (by have := hB3.size; simp at this; omega) _⟩
    · obtain rfl : k = l.length := by omega
      have hdr' := hdr.out
      rw [List.drop_length] at hdr'
      have HR := Lib.hid hdr'
      clear hdr hdr'
      go_wp2
      go_ret
      exact ⟨by rw [← HR.out]; rfl, hB⟩
end Go.Proofs.YtchkngabppmbkaaDoor
