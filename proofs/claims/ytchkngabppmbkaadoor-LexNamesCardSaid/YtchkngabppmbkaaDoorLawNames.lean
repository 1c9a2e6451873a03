/-
  What is proved: the document's other examples of the texts' layer, and its errors, come out as it says (P1.1 to P1.9). Conditions: the listed package-level variables begin as the program's text lays them (the card ties them).
-/
import Derived.Test.YtchkngabppmbkaaDoorLexYA
import Derived.Test.YtchkngabppmbkaaDoorLexZU
import Derived.Test.YtchkngabppmbkaaDoorLexZL
import Derived.Test.YtchkngabppmbkaaDoorLexX
import Derived.Test.YtchkngabppmbkaaDoorLexV
import Derived.Test.YtchkngabppmbkaaDoorLexR
import Derived.Test.YtchkngabppmbkaaDoorLexP
import Derived.Test.YtchkngabppmbkaaDoorLexQ
import Derived.Test.YtchkngabppmbkaaDoorLexW
import Derived.KernelRfl
import Derived.Test.YtchkngabppmbkaaDoorSpecZ
import Derived.Test.YtchkngabppmbkaaDoorSpecJ
import Derived.Test.YtchkngabppmbkaaDoorSpecQ
import Derived.Test.YtchkngabppmbkaaDoorSpecS
namespace Go.Proofs.YtchkngabppmbkaaDoor.Lx
theorem nm1 : (tokensOf ⟨#[100, 101, 102, 32, 65, 98]⟩).2 = (4, 4) := by kernel_rfl
theorem nm2 : (tokensOf ⟨#[97, 32, 48, 49]⟩).2 = (2, 4) := by kernel_rfl
theorem nm3 : (tokensOf ⟨#[49, 48, 48, 48, 48, 48, 49]⟩).2 = (0, 3) := by kernel_rfl
theorem nm4 : spotOf ⟨#[97, 10, 98, 99]⟩ 3 = ((2, 2), 0) := by kernel_rfl
theorem nm5 : atOf ⟨#[97, 10, 98, 99]⟩ 1 2 = (1, 0) := by kernel_rfl
theorem nm6 : atOf ⟨#[97, 10, 98, 99]⟩ 1 3 = (0, 7) := by kernel_rfl
theorem nm7 : tightOf [⟨1, ⟨#[120]⟩, 0⟩, ⟨4, ⟨#[58]⟩, 0⟩, ⟨4, ⟨#[61]⟩, 0⟩, ⟨3, ⟨#[105, 110]⟩, 0⟩, ⟨4, ⟨#[40]⟩, 0⟩] = (⟨#[120, 58, 32, 61, 105, 110, 40]⟩, 0) := by kernel_rfl
theorem nm8 : tightOf [⟨1, ⟨#[105, 110]⟩, 0⟩] = (⟨#[]⟩, 2) := by kernel_rfl
theorem nm9 : pairsOf [⟨4, ⟨#[40]⟩, 0⟩, ⟨4, ⟨#[125]⟩, 0⟩] = ([], 1, 4) := by kernel_rfl
theorem nm10 : movedOf ⟨#[97, 98, 99]⟩ [⟨1, 2, ⟨#[120, 121]⟩⟩] 2 = (3, 0) := by kernel_rfl
theorem nm11 : movedOf ⟨#[97, 98, 99]⟩ [⟨1, 2, ⟨#[120, 121]⟩⟩] 1 = (0, 7) := by kernel_rfl
theorem nm12 : undoOf ⟨#[97, 98, 99]⟩ [⟨1, 2, ⟨#[120, 121]⟩⟩] = ([⟨1, 3, ⟨#[98]⟩⟩], 0) := by kernel_rfl
theorem nm13 : diffOf ⟨#[97, 97, 98]⟩ ⟨#[97, 98]⟩ = ([⟨1, 2, ⟨#[]⟩⟩], 0) := by kernel_rfl
theorem nm14 : keptOf ⟨#[97, 32, 98, 32, 99]⟩ ⟨2, 3, ⟨#[100, 32, 101]⟩⟩ = (1, 1, 0) := by kernel_rfl
theorem nm15 : (renameOf ⟨#[120, 32, 43, 32, 120, 115]⟩ ⟨#[120]⟩ ⟨#[120, 115]⟩).2 = 6 := by kernel_rfl
theorem nm16 : (renameOf ⟨#[120, 32, 43, 32, 120, 115]⟩ ⟨#[120]⟩ ⟨#[105, 102]⟩).2 = 2 := by kernel_rfl
theorem nm17 : (renameOf ⟨#[120, 32, 43, 32, 120, 115]⟩ ⟨#[121]⟩ ⟨#[122]⟩).2 = 7 := by kernel_rfl
end Go.Proofs.YtchkngabppmbkaaDoor.Lx

namespace Go.Proofs.YtchkngabppmbkaaDoor
open Go.ChangeShapes Go.WideShapes Go.ChangeAt Go.RowKit

theorem toks_new (L : List Lx.Item) (W W3 : World) (h3 : W3 = W.alloc (.cells ⟨toksCells L⟩ 63)) : Tks W3 W3.heap.size (some ⟨W.heap.size, 0, none⟩) (L.map Lx.Item.tk) ∧ Below W.heap.size W W3 := by
  have hb : Below W.heap.size W W3 := by rw [h3]; exact (Below.refl _ _).alloc (Nat.le_refl _) _
  have hsz : W3.heap.size = W.heap.size + 1 := by rw [h3]; simp
  refine ⟨fun _ => ⟨_, _, rfl, by omega, fun i x hx => ?_⟩, hb⟩
  rw [List.getElem?_map] at hx
  obtain ⟨y, hy, rfl⟩ := Option.map_eq_some_iff.1 hx
  rw [Nat.zero_add, h3]
  exact ⟨cells_new_at W _ _ _ _ (toksCells_get L i y hy 0 _ rfl), cells_new_at W _ _ _ _ (toksCells_get L i y hy 1 _ rfl), cells_new_at W _ _ _ _ (toksCells_get L i y hy 2 _ rfl)⟩
theorem tight_new (L : List Lx.Item) (t : ByteArray) (te n : Nat) (hn : n = L.length) (hr : Lx.tightOf (L.map Lx.Item.tk) = (t, te)) (hl : L.length ≤ 1000) (hz : ∀ x ∈ L.map Lx.Item.tk, x.text.size ≤ 3000) (W W3 : World) (h3 : W3 = W.alloc (.cells ⟨toksCells L⟩ 63)) (hG : GV W) :
    Calls Tryd.prog 29 #[.slice (some ⟨W.heap.size, 0, none⟩) n n] W3 fun e w' => e = .returned (.tuple #[.string t, .int .i64 (te : Int)]) ∧ Below W.heap.size W w' := by
  subst hn
  obtain ⟨h1, h2⟩ := toks_new L W W3 h3
  have h := tight_any (L.map Lx.Item.tk) (some ⟨W.heap.size, 0, none⟩) L.length W3 (hG.below h2) (by simp; omega) hz h1
  rw [List.length_map, hr] at h
  exact h.mono fun e w' ⟨he, hB⟩ => ⟨he, h2.trans (hB.mono h2.size)⟩
theorem pairs_new (L : List Lx.Item) (r : List Int × Nat × Nat) (n : Nat) (hn : n = L.length) (hr : Lx.pairsOf (L.map Lx.Item.tk) = r) (hl : L.length ≤ 1000) (hz : ∀ x ∈ L.map Lx.Item.tk, x.text.size ≤ 3000) (W W3 : World) (h3 : W3 = W.alloc (.cells ⟨toksCells L⟩ 63)) (hG : GV W) :
    Calls Tryd.prog 31 #[.slice (some ⟨W.heap.size, 0, none⟩) n n] W3 fun e w' => ∃ v, e = .returned (.tuple #[v, .int .i64 (r.2.1 : Int), .int .i64 (r.2.2 : Int)]) ∧ Below W.heap.size W w' := by
  subst hn
  obtain ⟨h1, h2⟩ := toks_new L W W3 h3
  have h := pairs_any (L.map Lx.Item.tk) (some ⟨W.heap.size, 0, none⟩) L.length W3 (hG.below h2) (by simp; omega) (fun x hx => by have := hz x hx; omega) h1
  rw [List.length_map, hr] at h
  exact h.mono fun e w' ⟨v, he, _, hB⟩ => ⟨v, he, h2.trans (hB.mono h2.size)⟩
theorem spls_laterN {w w' : World} {A : Option Addr} {l : List Lx.Spl} (h : Spls w w.heap.size A l) (hB : Below w.heap.size w w') : Spls w' w'.heap.size A l := fun hn => by
  obtain ⟨b, off, h1, h2, h3⟩ := h.below hB hn
  exact ⟨b, off, h1, Nat.lt_of_lt_of_le h2 hB.size, h3⟩
theorem boxN_next {W W' : World} {b : Nat} {o : Obj} (h : W.heap[b]? = some o) (hB : Below W.heap.size W W') : W'.heap[b]? = some o := (hB.block _ (Array.getElem?_eq_some_iff.1 h).1).trans h

theorem one_spl {w : World} {A : Option Addr} {x : Lx.Spl} {n : Nat} (h : Spls w w.heap.size A ([x], n).1) : ∃ b off, A = some ⟨b, off, none⟩ ∧ Hid (∀ W, Below w.heap.size w W → W.cell? ⟨b, off, none⟩ = some (.int .i64 x.lo) ∧ W.cell? ⟨b, off + 1, none⟩ = some (.int .i64 x.hi) ∧ W.cell? ⟨b, off + 2, none⟩ = some (.string x.text)) := by
  obtain ⟨b, off, h1, h2, h3⟩ := h (by simp)
  refine ⟨b, off, h1, fun W hW => ?_⟩
  obtain ⟨a1, a2, a3⟩ := h3 0 x rfl
  simp only [Nat.zero_mul, Nat.add_zero] at a1 a2 a3
  exact ⟨(hW.cell (p := ⟨b, _, none⟩) h2).trans a1, (hW.cell (p := ⟨b, _, none⟩) h2).trans a2, (hW.cell (p := ⟨b, _, none⟩) h2).trans a3⟩
theorem run_eql_splN (w : World) (k k' p p' : Int) (a b : ByteArray) : (binOp .eql 56 (.agg #[.int .i64 k, .int .i64 p, .string a]) (.agg #[.int .i64 k', .int .i64 p', .string b])).run Tryd.prog w = .ok (.bool (splEq k k' p p' a b)) w := by
  rw [run_eql_struct, spl_equal]; rfl

set_option maxRecDepth 100000 in
set_option maxHeartbeats 8000000 in
theorem lawNames_any (w : World) (hG : GV w) :
    Calls Tryd.prog 10 #[] w fun e w' => e = .returned (.bool true) ∧ Below w.heap.size w w' := by
  have HW := Lib.hid (fun W (hB : Below w.heap.size w W) => awake_any W (hG.below hB))
  have h1 := tokens_any ⟨#[100, 101, 102, 32, 65, 98]⟩ (by decide) w hG
  rw [Lx.nm1] at h1
  have h2 := fun W (hB : Below w.heap.size w W) => tokens_any ⟨#[97, 32, 48, 49]⟩ (by decide) W (hG.below hB)
  rw [Lx.nm2] at h2
  have h3 := fun W (hB : Below w.heap.size w W) => tokens_any ⟨#[49, 48, 48, 48, 48, 48, 49]⟩ (by decide) W (hG.below hB)
  rw [Lx.nm3] at h3
  have h4 := fun W => spot_any ⟨#[97, 10, 98, 99]⟩ 3 (by decide) W
  rw [Lx.nm4] at h4
  unfold spotRes at h4
  have h5 := fun W => at_any ⟨#[97, 10, 98, 99]⟩ 1 2 (by decide) W
  rw [Lx.nm5] at h5
  unfold atRes at h5
  have h6 := fun W => at_any ⟨#[97, 10, 98, 99]⟩ 1 3 (by decide) W
  rw [Lx.nm6] at h6
  unfold atRes at h6
  have h7 := fun W W3 hW (hB : Below w.heap.size w W) => tight_new [⟨1, ⟨#[120]⟩, 0, 0⟩, ⟨4, ⟨#[58]⟩, 0, 0⟩, ⟨4, ⟨#[61]⟩, 0, 0⟩, ⟨3, ⟨#[105, 110]⟩, 0, 0⟩, ⟨4, ⟨#[40]⟩, 0, 0⟩] _ _ 5 rfl Lx.nm7 (by decide) (by decide) W W3 hW (hG.below hB)
  have h8 := fun W W3 hW (hB : Below w.heap.size w W) => tight_new [⟨1, ⟨#[105, 110]⟩, 0, 0⟩] _ _ 1 rfl Lx.nm8 (by decide) (by decide) W W3 hW (hG.below hB)
  have h9 := fun W W3 hW (hB : Below w.heap.size w W) => pairs_new [⟨4, ⟨#[40]⟩, 0, 0⟩, ⟨4, ⟨#[125]⟩, 0, 0⟩] _ 2 rfl Lx.nm9 (by decide) (by decide) W W3 hW (hG.below hB)
  have h10 := fun A c W hS => moved_any ⟨#[97, 98, 99]⟩ [⟨1, 2, ⟨#[120, 121]⟩⟩] 2 A c W (by decide) (by decide) (by decide) hS
  rw [Lx.nm10] at h10
  unfold NumRet at h10
  have h11 := fun A c W hS => moved_any ⟨#[97, 98, 99]⟩ [⟨1, 2, ⟨#[120, 121]⟩⟩] 1 A c W (by decide) (by decide) (by decide) hS
  rw [Lx.nm11] at h11
  unfold NumRet at h11
  have h12 := fun A c W hS => undo_any ⟨#[97, 98, 99]⟩ [⟨1, 2, ⟨#[120, 121]⟩⟩] A c W (by decide) (by decide) (by decide) hS
  rw [Lx.nm12] at h12
  have h13 := fun W => diff_any ⟨#[97, 97, 98]⟩ ⟨#[97, 98]⟩ W (by decide) (by decide)
  rw [Lx.nm13] at h13
  have h14 := fun W (hB : Below w.heap.size w W) => kept_any ⟨#[97, 32, 98, 32, 99]⟩ ⟨2, 3, ⟨#[100, 32, 101]⟩⟩ W (by decide) (by decide) (hG.below hB)
  rw [Lx.nm14] at h14
  unfold KeptRet at h14
  have h15 := fun W (hB : Below w.heap.size w W) => rename_any ⟨#[120, 32, 43, 32, 120, 115]⟩ ⟨#[120]⟩ ⟨#[120, 115]⟩ W (by decide) (by decide) (by decide) (hG.below hB)
  rw [Lx.nm15] at h15
  have h16 := fun W (hB : Below w.heap.size w W) => rename_any ⟨#[120, 32, 43, 32, 120, 115]⟩ ⟨#[120]⟩ ⟨#[105, 102]⟩ W (by decide) (by decide) (by decide) (hG.below hB)
  rw [Lx.nm16] at h16
  have h17 := fun W (hB : Below w.heap.size w W) => rename_any ⟨#[120, 32, 43, 32, 120, 115]⟩ ⟨#[121]⟩ ⟨#[122]⟩ W (by decide) (by decide) (by decide) (hG.below hB)
  rw [Lx.nm17] at h17
  generalize (Lx.renameOf ⟨#[120, 32, 43, 32, 120, 115]⟩ ⟨#[120]⟩ ⟨#[120, 115]⟩).1 = t15 at h15
  generalize (Lx.renameOf ⟨#[120, 32, 43, 32, 120, 115]⟩ ⟨#[120]⟩ ⟨#[105, 102]⟩).1 = t16 at h16
  generalize (Lx.renameOf ⟨#[120, 32, 43, 32, 120, 115]⟩ ⟨#[121]⟩ ⟨#[122]⟩).1 = t17 at h17
  have H1 := Lib.hid h1; have H2 := Lib.hid h2; have H3 := Lib.hid h3; have H4 := Lib.hid h4; have H5 := Lib.hid h5; have H6 := Lib.hid h6; have H7 := Lib.hid h7; have H8 := Lib.hid h8; have H9 := Lib.hid h9
  have H10 := Lib.hid h10; have H11 := Lib.hid h11; have H12 := Lib.hid h12; have H13 := Lib.hid h13; have H14 := Lib.hid h14; have H15 := Lib.hid h15; have H16 := Lib.hid h16; have H17 := Lib.hid h17
  have qn := run_neq_sp
  have qgn : ∀ (x y : Operand) (xs ys : Array Value) (w : World), (eqGuard .neq 32 x y (.agg xs) (.agg ys)).run Tryd.prog w = .ok () w := fun x y xs ys w => run_eqGuard_agg w _ _ x y xs ys (by kernel_rfl)
  have hq : spEq 2 2 2 2 = true := by decide
  have qn2 := run_neq_spl
  have qgn2 : ∀ (x y : Operand) (xs ys : Array Value) (w : World), (eqGuard .neq 56 x y (.agg xs) (.agg ys)).run Tryd.prog w = .ok () w := fun x y xs ys w => run_eqGuard_agg w _ _ x y xs ys (by kernel_rfl)
  have qe2 := run_eql_splN
  have qge2 : ∀ (x y : Operand) (xs ys : Array Value) (w : World), (eqGuard .eql 56 x y (.agg xs) (.agg ys)).run Tryd.prog w = .ok () w := fun x y xs ys w => run_eqGuard_agg w _ _ x y xs ys (by kernel_rfl)
  have hs1 : splEq 1 1 3 3 ⟨#[98]⟩ ⟨#[98]⟩ = true := by simp [splEq]
  have hs2 : splEq 1 1 2 2 ⟨#[]⟩ ⟨#[]⟩ = true := by simp [splEq]
  clear h1 h2 h3 h4 h5 h6 h7 h8 h9 h10 h11 h12 h13 h14 h15 h16 h17 hG
  go_enter Tryd.func10, Tryd.ntmps10
  go_wp2_with (first
    | (go_at_call 18; refine (HW.out w17 b17).mono ?_; rintro e w18 ⟨rfl, hB18⟩)
    | (go_at_call 46; refine (H17.out w16 b16).mono ?_; rintro e w17 ⟨rfl, hB17⟩; have b17 := b16.trans (hB17.mono b16.size); obtain ⟨d1, d2, d3⟩ := HD.out w17 (bd16.trans (hB17.mono bd16.size)))
    | (go_at_call 46; refine (H16.out w15 b15).mono ?_; rintro e w16 ⟨rfl, hB16⟩; have b16 := b15.trans (hB16.mono b15.size); have bd16 := bd15.trans (hB16.mono bd15.size))
    | (go_at_call 46; refine (H15.out w14 b14).mono ?_; rintro e w15 ⟨rfl, hB15⟩; have b15 := b14.trans (hB15.mono b14.size); have bd15 := hB14.trans (hB15.mono hB14.size))
    | (go_at_call 44; refine (H14.out w13 b13).mono ?_; rintro e w14 ⟨rfl, hB14⟩; have b14 := b13.trans (hB14.mono b13.size))
    | (go_at_call 42; refine (H13.out w12).mono ?_; rintro e w13 ⟨D13, c13, rfl, hD13, hB13, -⟩; have b13 := b12.trans (hB13.mono b12.size); obtain ⟨bd, od, rfl, HD⟩ := one_spl hD13)
    | (go_at_call 39; refine (H12.out _ _ w11 sp11).mono ?_; rintro e w12 ⟨D12, c12, rfl, hU12, hB12, -⟩; have b12 := b11.trans (hB12.mono b11.size); obtain ⟨bu, ou, rfl, HU⟩ := one_spl hU12; obtain ⟨u1, u2, u3⟩ := HU.out w12 (Below.refl _ _))
    | (go_at_call 37; refine (H11.out _ _ w10 sp10).mono ?_; rintro e w11 ⟨rfl, hB11⟩; have b11 := b10.trans (hB11.mono b10.size); have sp11 := spls_laterN sp10 hB11)
    | (go_at_call 37; refine (H10.out _ 1 _ (spls_new w9)).mono ?_; rintro e w10 ⟨rfl, hB10⟩; have b9a := b9.alloc b9.size (.cells #[.int .i64 1, .int .i64 2, .string ⟨#[120, 121]⟩] 56); have b10 := b9a.trans (hB10.mono b9a.size); have sp10 := spls_laterN (spls_new w9) hB10)
    | (go_at_call 19; refine (H3.out w2 b2).mono ?_; rintro e w3 ⟨v3, rfl, _, hB3⟩; have b3 := b2.trans (hB3.mono b2.size))
    | (go_at_call 19; refine (H2.out w1 b1).mono ?_; rintro e w2 ⟨v2, rfl, _, hB2⟩; have b2 := b1.trans (hB2.mono b1.size))
    | (go_at_call 19; refine H1.out.mono ?_; rintro e w1 ⟨v1, rfl, _, b1⟩)
    | (go_at_call 26; refine (H6.out w5).mono ?_; rintro e w6 ⟨rfl, hB6⟩; have b6 := b5.trans (hB6.mono b5.size); obtain ⟨s0, s1, _, _⟩ := pair_cells (boxN_next p5 hB6); clear p5)
    | (go_at_call 26; refine (H5.out _).mono ?_; rintro e w5 ⟨rfl, hB5⟩; have b5 := b4a.trans (hB5.mono b4a.size); have p5 := boxN_next (World.alloc_heap_new w4 (.cells #[.int .i64 2, .int .i64 2] 32)) hB5)
    | (go_at_call 24; refine (H4.out w3).mono ?_; rintro e w4 ⟨rfl, hB4⟩; have b4 := b3.trans (hB4.mono b3.size); have b4a := b4.alloc b4.size (.cells #[.int .i64 2, .int .i64 2] 32))
    | (go_at_call 31; refine (H9.out w8 _ rfl b8).mono ?_; rintro e w9 ⟨v9, rfl, hB9⟩; have b9 := b8.trans (hB9.mono b8.size))
    | (go_at_call 29; refine (H8.out w7 _ rfl b7).mono ?_; rintro e w8 ⟨rfl, hB8⟩; have b8 := b7.trans (hB8.mono b7.size))
    | (go_at_call 29; refine (H7.out w6 _ rfl b6).mono ?_; rintro e w7 ⟨rfl, hB7⟩; have b7 := b6.trans (hB7.mono b6.size)))
  go_ret
  exact ⟨rfl, b17.trans (hB18.mono b17.size)⟩

-- CALL: lawNames_any W (gv_of_laid hL)
namespace lexNames
set_option maxRecDepth 100000 in
theorem contract (H : Type) (enc : TypeId × Value → H) (W : World) (base : Nat) (args : Array Value) (ds gs : List (DataW H)) (before : List MemPlace)
    (hval : ∀ (j : Nat) t v, Tryd.f10.params[j]? = some t → args[j]? = some v → Value.okWide Tryd.prog W .any base t v)
    (hW : DataW.Whole enc Tryd.prog Tryd.f10.params.toList Rows.lexNamesSpec.vars false W args.toList ds gs before)
    (hwt : (DataW.weightsEach Tryd.prog (Tryd.f10.params.toList ++ (OpenSpec.ofChange Rows.lexNamesSpec).bare.plain.varTypes Tryd.prog) (ds ++ gs)).all (· ≤ reachBytes) = true)
    (hL : laidMetH Tryd.prog Rows.lexNamesRow.laid W) :
    Calls Tryd.prog 10 args W fun e W' => ∃ v, e = .returned v ∧ Rows.lexNamesSpec.post enc Tryd.prog Tryd.f10 false true false false W args v W' := by
  have hW' := hW
  obtain ⟨p, q, hA0, hV, rfl, hfz, hnd⟩ := hW
  have hA : DataW.TrodAll enc Tryd.prog W 0 (fun _ => true) true Tryd.f10.params.toList args.toList ds p := hA0
  rw [Tryd.params10] at hA hval hwt
  obtain ⟨hargs, rfl, rfl⟩ := trodAll_nil hA
  obtain rfl : args = #[] := by cases args; simp_all
  obtain ⟨rfl, rfl⟩ := trodVars_none hV
  clear hA0
  unfold reachBytes at *
  refine (lawNames_any W (gv_of_laid hL)).mono fun e W' ⟨he, hB⟩ => ?_
  subst he
  exact ⟨_, rfl, law_post hW' hB rfl rfl (by
    rw [Tryd.params10]
    exact (fun t ht => by cases ht)) rfl rfl rfl⟩

def wargs : Array Value := #[]
theorem reads (os : Os) {H : Type} (enc : TypeId × Value → H) : ∃ places, DataW.whole enc Tryd.prog ((laidWorld os #[]).forCall (fun _ _ => 0) ⟨#[], wargs, []⟩).memory Tryd.f10.params.toList Rows.lexNamesSpec.vars false wargs.toList 8 = some ([], [], places) :=
  ⟨[], by kernel_rfl⟩

set_option maxRecDepth 100000 in
theorem lifted (os : Os) (started : os.Started) (H : Type) (enc : TypeId × Value → H) (F : Stop.Interp) :
    ReturnsInHanded {} Tryd.checked os 10 .any ((OpenSpec.ofChange Rows.lexNamesSpec).preRow enc Tryd.prog Tryd.f10 Rows.lexNamesRow.domain false Rows.lexNamesRow.laid) (((OpenSpec.ofChange Rows.lexNamesSpec).at F).post enc Tryd.prog Tryd.f10 false true false false) := by
  obtain ⟨places, hx⟩ := reads os enc
  refine returnsInHanded_of_row (C := Tryd.checked) (s := OpenSpec.ofChange Rows.lexNamesSpec) ownK started (by kernel_rfl) Tryd.func10
    (witness_row_at (enc := enc) (C := Tryd.checked) false (laidWorld os #[]) wargs rfl (varsK os wargs) (restK os wargs) (by kernel_rfl)
      (OpenSpec.preRow_of_cond 8 hx (by kernel_rfl) (fun k hk => by cases hk) (by kernel_rfl) (laid_metK os wargs))) ?_
  intro W base args ds gs before hval hW _ _ hwt hL _ _
  exact contract H enc W base args ds gs before hval hW hwt hL

theorem said : Rows.LexNamesSaid :=
  OpenClaim.holds_of_cond 10 Tryd.f10 rfl rfl rfl rfl rfl rfl rfl ⟨rfl, rfl, rfl, rfl, rfl⟩ rfl rfl rfl rfl rfl (by kernel_rfl) Tryd.func10 (by kernel_rfl)
    (of_decide_eq_true (by kernel_rfl)) (by unfold Func.isWrapper; first | (rw [if_pos (by decide +kernel)]; kernel_rfl) | (rw [if_neg (by decide +kernel)]; exact ⟨rfl, rfl⟩))
    (fun os started H enc _ F => by rw [OpenClaim.pre_eq_preRow]; exact lifted os started H enc F)

theorem plain (f : FuncId) (fn : Func) (hf : Tryd.pinned.checked.prog.funcNamed "riposte/ripostelaw01.LexNames" = some f) (hfn : Tryd.pinned.checked.prog.funcs[f]? = some fn) :
    true = Tryd.pinned.checked.prog.looks [] ∧ ∀ (j : Nat) t, fn.params[j]? = some t → Tryd.pinned.checked.prog.wantsStandIn t = false := by
  obtain rfl : f = 10 := Option.some.inj ((show Tryd.prog.funcNamed "riposte/ripostelaw01.LexNames" = some 10 by kernel_rfl).symm.trans hf) |>.symm
  obtain rfl : fn = Tryd.f10 := (Option.some.inj (Tryd.func10.symm.trans hfn)).symm
  refine ⟨by kernel_rfl, fun j t ht => ?_⟩
  rw [Tryd.params10] at ht
  simp at ht

theorem card : Rows.LexNamesCardSaid :=
  Claim7.holds_tied_plain_at .later [] _ _ _ _ said (fun _ h => by cases h) (by kernel_rfl) (fun _ h => by cases h) lexNames_row_tie rfl ⟨rfl, rfl⟩ (by kernel_rfl) rfl plain (by kernel_rfl)
end lexNames
end Go.Proofs.YtchkngabppmbkaaDoor
